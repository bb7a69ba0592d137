/- DERIVED. Contracts of layer 1: where a stretch of classes ends. -/
import Derived.Test.YtamdcloahkacnaaGreatDoorLexA
namespace Go.Proofs.YtamdcloahkacnaaGreatDoor
open Go.RowKit

/-- Inside the stretch. -/
def InRun (l : List Nat) (s : ByteArray) (k i : Nat) : Prop := ∀ j, (hj : k + j < s.size) → j < i → l.contains (M.cls s[k + j]) = true
theorem run_stop (l : List Nat) (s : ByteArray) (k i : Nat) (hk : k + i < s.size) (h : InRun l s k i) (hn : l.contains (M.cls s[k + i]) = false) : M.behind l s.data.toList k = k + i := by
  have hz := M.size_list s
  have e := M.leadI_stop (fun _ c => l.contains (M.cls c)) (s.data.toList.drop k) 0 i (by rw [List.length_drop]; omega)
    (fun j hj => by have := h j (by omega) hj; rw [List.getElem_drop]; exact this) (by rw [List.getElem_drop]; exact hn)
  unfold M.behind
  rw [e]; omega
theorem run_all (l : List Nat) (s : ByteArray) (k i : Nat) (hk : k ≤ s.size) (hi : s.size ≤ k + i) (h : InRun l s k i) : M.behind l s.data.toList k = s.size := by
  have hz := M.size_list s
  have e := M.leadI_all (fun _ c => l.contains (M.cls c)) (s.data.toList.drop k) 0 (fun j hj => by
    rw [List.length_drop] at hj
    have := h j (by omega) (by omega)
    rw [List.getElem_drop]; exact this)
  unfold M.behind
  rw [e, List.length_drop]; omega

set_option maxHeartbeats 1000000 in
set_option maxRecDepth 100000 in
theorem behind_any (s : ByteArray) (k b : Nat) (l : List Nat) (w : World) (hs : s.size ≤ maxLen) (hk : k ≤ s.size) (hl : l.length ≤ 4) (hc : ∀ i, (hi : i < l.length) → w.cell? ⟨b, i, none⟩ = some (.int .i64 l[i])) :
    Calls Tryz.prog 46 #[.string s, .int .i64 k, .slice (some ⟨b, 0, none⟩) l.length l.length] w fun e w' => e = .returned (.int .i64 (M.behind l s.data.toList k)) ∧ w = w' := by
  unfold maxLen at hs
  have HC := Lib.hid hc
  clear hc
  go_enter Tryz.func46, Tryz.ntmps46
  go_wp2_with fail
  go_loop [7, 12] (fun _ i => ∃ n : Nat, k + n ≤ s.size ∧ i = .int .i64 n ∧ InRun l s k n) (fun _ i => s.size - (intOf i).toNat)
  case atStart => exact ⟨0, by omega, rfl, fun j _ hj => by omega⟩
  case round =>
    obtain ⟨n, hn, rfl, hb⟩ := hrel
    have HB := Lib.hid hb
    clear hb
    by_cases hlt : k + n < s.size
    · by_cases hm : l.contains (M.cls s[k + n]) = true
      · have HM := Lib.hid hm
        clear hm
        go_wp2_with fail
        refine (classOf_any _ _).mono ?_
        rintro e w' ⟨rfl, rfl⟩
        go_wp2_with fail
        refine (contains_cls b l _ _ hl HC.out).mono ?_
        rintro e w' ⟨rfl, rfl⟩
        rw [HM.out]
        go_wp2
        go_round
        case rel => exact ⟨n + 1, by omega, by go_num, fun j hj h => by by_cases e : j = n; · subst e; exact HM.out
                                                                        · exact HB.out j hj (by omega)⟩
        case measure => simp [intOf]; omega
      · have hm' : l.contains (M.cls s[k + n]) = false := by simpa using hm
        have HM := Lib.hid hm'
        clear hm hm'
        go_wp2_with fail
        refine (classOf_any _ _).mono ?_
        rintro e w' ⟨rfl, rfl⟩
        go_wp2_with fail
        refine (contains_cls b l _ _ hl HC.out).mono ?_
        rintro e w' ⟨rfl, rfl⟩
        rw [HM.out]
        go_wp2
        go_ret
        exact ⟨ret_int (by rw [run_stop l s k n hlt HB.out HM.out]; simp), rfl⟩
    · go_wp2
      go_ret
      exact ⟨ret_int (by rw [run_all l s k n hk (by omega) HB.out]), rfl⟩

end Go.Proofs.YtamdcloahkacnaaGreatDoor
