/- DERIVED. Contract of the document's own Check. -/
import Derived.Test.YtamdcloahkacnaaDoorLexSb
namespace Go.Proofs.YtamdcloahkacnaaDoor
open Go.RowKit Go.WideMaps Go.Maps Go.Shelf

set_option maxHeartbeats 1000000 in
set_option maxRecDepth 100000 in
theorem refCheck_any (s : ByteArray) (w : World) (hs : s.size ≤ maxLen) :
    Calls Tryd.prog 19 #[.string s] w fun e w' => e = .returned (.tuple #[.int .i64 (M.fault s.data.toList).1, .int .i64 (M.fault s.data.toList).2]) ∧ Below w.heap.size w w' := by
  by_cases h1 : 2500 < s.size
  · have hk : M.fault s.data.toList = (0, 5) := by unfold M.fault; rw [M.size_list, if_pos h1]
    have HK := Lib.hid hk
    clear hk
    unfold maxLen at hs
    go_enter Tryd.func19, Tryd.ntmps19
    go_wp2_with fail
    go_ret2
    exact ⟨by rw [HK.out]; rfl, Below.refl _ _⟩
  · have hf : M.fault s.data.toList = if M.badAt s.data.toList < s.size then (M.badAt s.data.toList, 4) else (0, 0) := by unfold M.fault; rw [M.size_list, if_neg h1]
    have HF := Lib.hid hf
    clear hf
    have hs2 : s.size ≤ 2500 := by omega
    clear hs h1
    go_enter Tryd.func19, Tryd.ntmps19
    go_wp2_with fail
    go_loopw [4] (fun i wr => ∃ k : Nat, k ≤ s.size ∧ i = .int .i64 k ∧ (∀ j, (hj : j < s.data.toList.length) → j < k → M.okByte s.data.toList[j] = true) ∧ Below w.heap.size w wr) (fun i _ => s.size - (intOf i).toNat)
    case atStart => exact ⟨0, by omega, rfl, fun j _ hj => by omega, Below.refl _ _⟩
    case round =>
      rename_i wr
      obtain ⟨k, hk, rfl, hb, hB⟩ := hrel
      have HB := Lib.hid hb
      clear hb
      by_cases hlt : k < s.size
      · have hll : k < s.data.toList.length := by rw [M.size_list]; exact hlt
        obtain ⟨c, hc⟩ : ∃ c, s[k] = c := ⟨_, rfl⟩
        have hcl : s.data.toList[k] = c := hc
        have HBk := Lib.hid fun (hx : M.okByte c = false) => M.leadI_stop (fun _ c => M.okByte c) s.data.toList 0 k hll (fun j hj => HB.out j (by omega) hj) (by rw [hcl]; exact hx)
        by_cases c1 : c.toNat = 10
        · have d1 : (((c.toNat : Nat) : Int) == 10) = true := by rw [c1]; rfl
          have d2 : (((c.toNat : Nat) : Int) != 10) = false := by rw [c1]; rfl
          have hok : M.okByte c = true := by unfold M.okByte; rw [c1]; rfl
          go_wp2_with fail
          refine ⟨⟨k + 1, by omega, by simp, ?_, hB⟩, by simp [intOf]; omega⟩
          intro j q1 hj
          rcases Nat.lt_succ_iff_lt_or_eq.1 hj with hj | rfl
          · exact HB.out j q1 hj
          · rw [hcl]; exact hok
        · have d1 : (((c.toNat : Nat) : Int) == 10) = false := by rw [beq_eq_false_iff_ne]; omega
          have d2 : (((c.toNat : Nat) : Int) != 10) = true := by rw [bne_iff_ne]; omega
          by_cases c2 : c.toNat < 32
          · have d3 : decide (((c.toNat : Nat) : Int) < 32) = true := by simp; omega
            have hbad : M.okByte c = false := by unfold M.okByte; simp; omega
            have hbk := HBk.out hbad
            have HBK := Lib.hid hbk
            clear hbk
            go_wp2_with fail
            go_ret2
            exact ⟨by rw [HF.out]; unfold M.badAt; rw [HBK.out, Nat.zero_add, if_pos hlt]; rfl, hB⟩
          · have d3 : decide (((c.toNat : Nat) : Int) < 32) = false := by simp; omega
            by_cases c3 : 126 < c.toNat
            · have d4 : decide ((126 : Int) < ((c.toNat : Nat) : Int)) = true := by simp; omega
              have hbad : M.okByte c = false := by unfold M.okByte; simp; omega
              have hbk := HBk.out hbad
              have HBK := Lib.hid hbk
              clear hbk
              go_wp2_with fail
              go_ret2
              exact ⟨by rw [HF.out]; unfold M.badAt; rw [HBK.out, Nat.zero_add, if_pos hlt]; rfl, hB⟩
            · have d4 : decide ((126 : Int) < ((c.toNat : Nat) : Int)) = false := by simp; omega
              have hok : M.okByte c = true := by unfold M.okByte; simp; omega
              go_wp2_with fail
              refine ⟨⟨k + 1, by omega, by simp, ?_, hB⟩, by simp [intOf]; omega⟩
              intro j q1 hj
              rcases Nat.lt_succ_iff_lt_or_eq.1 hj with hj | rfl
              · exact HB.out j q1 hj
              · rw [hcl]; exact hok
      · have hall : M.badAt s.data.toList = s.size := by
          unfold M.badAt
          rw [M.leadI_all (fun _ c => M.okByte c) s.data.toList 0 (fun j hj => HB.out j hj (by rw [M.size_list] at hj; omega)), Nat.zero_add, M.size_list]
        have HALL := Lib.hid hall
        clear hall
        go_wp2_with fail
        go_ret2
        exact ⟨by rw [HF.out, HALL.out, if_neg (by omega)]; rfl, hB⟩

end Go.Proofs.YtamdcloahkacnaaDoor
