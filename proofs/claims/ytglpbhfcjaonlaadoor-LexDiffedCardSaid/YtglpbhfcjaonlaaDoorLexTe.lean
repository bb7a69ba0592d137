/- DERIVED. Contracts of the document's own Check, IsEdit, Apply, Undo. -/
import Derived.Test.YtglpbhfcjaonlaaDoorLexTd
namespace Go.Proofs.YtglpbhfcjaonlaaDoor
open Go.RowKit Go.WideMaps Go.Maps Go.Shelf

set_option maxHeartbeats 1000000 in
set_option maxRecDepth 100000 in
theorem refCheck_any (s : ByteArray) (w : World) (hs : s.size ≤ maxLen) :
    Calls Tryd.prog 44 #[.string s] w fun e w' => e = .returned (.tuple #[.int .i64 (M.fault s.data.toList).1, .int .i64 (M.fault s.data.toList).2]) ∧ Below w.heap.size w w' := by
  by_cases h1 : 2500 < s.size
  · have hk : M.fault s.data.toList = (0, 5) := by unfold M.fault; rw [M.size_list, if_pos h1]
    have HK := Lib.hid hk
    clear hk
    unfold maxLen at hs
    go_enter Tryd.func44, Tryd.ntmps44
    go_wp2_with fail
    go_ret2
    exact ⟨by rw [HK.out]; rfl, Below.refl _ _⟩
  · have hf : M.fault s.data.toList = if M.badAt s.data.toList < s.size then (M.badAt s.data.toList, 4) else (0, 0) := by unfold M.fault; rw [M.size_list, if_neg h1]
    have HF := Lib.hid hf
    clear hf
    have hs2 : s.size ≤ 2500 := by omega
    clear hs h1
    go_enter Tryd.func44, Tryd.ntmps44
    go_wp2_with fail
    go_loopw [4] (fun i wr => ∃ k : Nat, k ≤ s.size ∧ i = .int .i64 k ∧ (∀ j, (hj : j < s.data.toList.length) → j < k → M.okByte s.data.toList[j] = true) ∧ Below w.heap.size w wr) (fun i _ => s.size - (intOf i).toNat)
    case atStart => exact ⟨0, by omega, rfl, fun j _ hj => by omega, Below.refl _ _⟩
    case round =>
      rename_i wr
      obtain ⟨k, hk, rfl, hb, hB⟩ := hrel
      have HB := Lib.hid hb
      clear hb
      by_cases hlt : k < s.size
      · have hll : k < s.data.toList.length := by rw [M.size_list]; exact hlt
        obtain ⟨c, hc⟩ : ∃ c, s[k] = c := ⟨_, rfl⟩
        have hcl : s.data.toList[k] = c := hc
        have HBk := Lib.hid fun (hx : M.okByte c = false) => M.leadI_stop (fun _ c => M.okByte c) s.data.toList 0 k hll (fun j hj => HB.out j (by omega) hj) (by rw [hcl]; exact hx)
        by_cases c1 : c.toNat = 10
        · have d1 : (((c.toNat : Nat) : Int) == 10) = true := by rw [c1]; rfl
          have d2 : (((c.toNat : Nat) : Int) != 10) = false := by rw [c1]; rfl
          have hok : M.okByte c = true := by unfold M.okByte; rw [c1]; rfl
          go_wp2_with fail
          refine ⟨⟨k + 1, by omega, by simp, ?_, hB⟩, by simp [intOf]; omega⟩
          intro j q1 hj
          rcases Nat.lt_succ_iff_lt_or_eq.1 hj with hj | rfl
          · exact HB.out j q1 hj
          · rw [hcl]; exact hok
        · have d1 : (((c.toNat : Nat) : Int) == 10) = false := by rw [beq_eq_false_iff_ne]; omega
          have d2 : (((c.toNat : Nat) : Int) != 10) = true := by rw [bne_iff_ne]; omega
          by_cases c2 : c.toNat < 32
          · have d3 : decide (((c.toNat : Nat) : Int) < 32) = true := by simp; omega
            have hbad : M.okByte c = false := by unfold M.okByte; simp; omega
            have hbk := HBk.out hbad
            have HBK := Lib.hid hbk
            clear hbk
            go_wp2_with fail
            go_ret2
            exact ⟨by rw [HF.out]; unfold M.badAt; rw [HBK.out, Nat.zero_add, if_pos hlt]; rfl, hB⟩
          · have d3 : decide (((c.toNat : Nat) : Int) < 32) = false := by simp; omega
            by_cases c3 : 126 < c.toNat
            · have d4 : decide ((126 : Int) < ((c.toNat : Nat) : Int)) = true := by simp; omega
              have hbad : M.okByte c = false := by unfold M.okByte; simp; omega
              have hbk := HBk.out hbad
              have HBK := Lib.hid hbk
              clear hbk
              go_wp2_with fail
              go_ret2
              exact ⟨by rw [HF.out]; unfold M.badAt; rw [HBK.out, Nat.zero_add, if_pos hlt]; rfl, hB⟩
            · have d4 : decide ((126 : Int) < ((c.toNat : Nat) : Int)) = false := by simp; omega
              have hok : M.okByte c = true := by unfold M.okByte; simp; omega
              go_wp2_with fail
              refine ⟨⟨k + 1, by omega, by simp, ?_, hB⟩, by simp [intOf]; omega⟩
              intro j q1 hj
              rcases Nat.lt_succ_iff_lt_or_eq.1 hj with hj | rfl
              · exact HB.out j q1 hj
              · rw [hcl]; exact hok
      · have hall : M.badAt s.data.toList = s.size := by
          unfold M.badAt
          rw [M.leadI_all (fun _ c => M.okByte c) s.data.toList 0 (fun j hj => HB.out j hj (by rw [M.size_list] at hj; omega)), Nat.zero_add, M.size_list]
        have HALL := Lib.hid hall
        clear hall
        go_wp2_with fail
        go_ret2
        exact ⟨by rw [HF.out, HALL.out, if_neg (by omega)]; rfl, hB⟩

set_option maxHeartbeats 1000000 in
set_option maxRecDepth 100000 in
theorem refIsEdit_any (s : ByteArray) (x : M.Ed) (w : World) (_hs : s.size ≤ maxLen) :
    Calls Tryd.prog 48 #[.string s, edV x] w fun e w' => e = .returned (.bool (decide (M.isEdit s x))) ∧ Below w.heap.size w w' := by
  by_cases h1 : 0 ≤ x.from_
  · have d1 : decide ((0 : Int) ≤ x.from_) = true := by simpa using h1
    by_cases h2 : x.from_ ≤ x.to_
    · have d2 : decide (x.from_ ≤ x.to_) = true := by simpa using h2
      by_cases h3 : x.to_ ≤ s.size
      · have d3 : decide (x.to_ ≤ (s.size : Int)) = true := by simpa using h3
        go_enter Tryd.func48, Tryd.ntmps48
        go_wp2_with fail
        go_ret
        exact ⟨ret_bool (by unfold M.isEdit; simp [h1, h2, h3]), below1 _ _⟩
      · have d3 : decide (x.to_ ≤ (s.size : Int)) = false := by simpa using h3
        go_enter Tryd.func48, Tryd.ntmps48
        go_wp2_with fail
        go_ret
        exact ⟨ret_bool (decide_eq_false (fun q : M.isEdit s x => by have := q.1; have := q.2.1; have := q.2.2; omega)).symm, below1 _ _⟩
    · have d2 : decide (x.from_ ≤ x.to_) = false := by simpa using h2
      go_enter Tryd.func48, Tryd.ntmps48
      go_wp2_with fail
      go_ret
      exact ⟨ret_bool (decide_eq_false (fun q : M.isEdit s x => by have := q.1; have := q.2.1; have := q.2.2; omega)).symm, below1 _ _⟩
  · have d1 : decide ((0 : Int) ≤ x.from_) = false := by simpa using h1
    go_enter Tryd.func48, Tryd.ntmps48
    go_wp2_with fail
    go_ret
    exact ⟨ret_bool (decide_eq_false (fun q : M.isEdit s x => by have := q.1; have := q.2.1; have := q.2.2; omega)).symm, below1 _ _⟩

def RApPost (s : ByteArray) (x : M.Ed) (w : World) (e : Ending) (w' : World) : Prop := e = .returned (.tuple #[.string (M.applyT s x), .int .i64 (M.appE s x)]) ∧ Below w.heap.size w w'

set_option maxHeartbeats 1000000 in
set_option maxRecDepth 100000 in
theorem refApply_any (s : ByteArray) (x : M.Ed) (w : World) (hs : s.size ≤ maxLen) (hp : x.put.size ≤ 140737488355328) :
    Calls Tryd.prog 28 #[.string s, edV x] w (RApPost s x w) := by
  by_cases h : (M.fault s.data.toList).2 = 0
  · have hsm : s.size ≤ 2500 := by rw [← M.size_list]; exact M.fault_small s.data.toList h
    by_cases hx : M.isEdit s x
    · have hau := M.after_size s x hx
      have hE : M.appE s x = (M.fault (M.after s x).data.toList).2 := by unfold M.appE; rw [if_neg (by rw [h]; simp), if_neg (by simpa using hx)]
      obtain ⟨p, c, hf⟩ : ∃ p c, M.fault s.data.toList = (p, c) := ⟨_, _, rfl⟩
      obtain ⟨p2, c2, hf2⟩ : ∃ p c, M.fault (M.after s x).data.toList = (p, c) := ⟨_, _, rfl⟩
      rw [hf] at h
      dsimp only at h
      subst h
      have hT : M.applyT s x = if c2 = 0 then M.after s x else ⟨#[]⟩ := by unfold M.applyT; rw [hE, hf2]
      rw [hf2] at hE
      dsimp only at hE
      have hus : (M.after s x).size ≤ maxLen := by have := hx.1; have := hx.2.1; have := hx.2.2; unfold maxLen; omega
      have hx' : decide (M.isEdit s x) = true := decide_eq_true hx
      have HX := Lib.hid hx'
      have HE := Lib.hid hE
      have HT := Lib.hid hT
      have HF := Lib.hid hf
      have HF2 := Lib.hid hf2
      have HUS := Lib.hid hus
      clear hE hT hf hf2 hau hus hx'
      have hi := hx
      obtain ⟨i1, i2, i3⟩ := hx
      obtain ⟨xf, xt, xp⟩ := x
      dsimp only at i1 i2 i3 hp
      obtain ⟨a, rfl⟩ := Int.eq_ofNat_of_zero_le i1
      obtain ⟨b, rfl⟩ := Int.eq_ofNat_of_zero_le (Int.le_trans i1 i2)
      have k1 : a ≤ s.size := by omega
      have k2 : b ≤ s.size := by omega
      have k3 : a ≤ b := by omega
      have k4 : ¬ 9223372036854775807 < a + xp.size := by omega
      have k5 : ¬ 9223372036854775807 < a + xp.size + (s.size - b) := by omega
      clear hi
      go_enter Tryd.func28, Tryd.ntmps28
      go_wp2_with fail
      refine (refCheck_any s _ hs).mono ?_
      rintro e w1 ⟨rfl, hB1⟩
      rw [HF.out]
      obtain ⟨⟨x0, x1, x2⟩, hBw, hlt⟩ := box1 (x := ⟨a, b, xp⟩) hB1
      clear hB1
      dsimp only at x0 x1 x2 ⊢
      go_wp2_with fail
      refine (refIsEdit_any s ⟨a, b, xp⟩ w1 hs).mono ?_
      rintro e w2 ⟨rfl, hB2⟩
      rw [HX.out]
      replace x0 := cell_below x0 hB2
      replace x1 := cell_below x1 hB2
      replace x2 := cell_below x2 hB2
      replace hBw := below2 hBw hB2
      replace hlt := Nat.lt_of_lt_of_le hlt hB2.size
      clear hB2
      go_wp2_with fail
      go_quiet (fail)
      go_wp2_with fail
      refine (refCheck_any (M.after s ⟨a, b, xp⟩) _ HUS.out).mono ?_
      rintro e w3 ⟨rfl, hB2⟩
      rw [HF2.out]
      replace hBw := below2 (belowN hBw _) hB2
      clear hB2
      dsimp only
      by_cases hc : c2 = 0
      · subst hc
        go_wp2_with fail
        go_ret2
        exact ⟨by rw [HE.out, HT.out]; rfl, hBw⟩
      · have h3 : ((c2 : Int) == 0) = false := by rw [beq_eq_false_iff_ne]; omega
        have h4 : ((c2 : Int) != 0) = true := by rw [bne_iff_ne]; omega
        go_wp2_with fail
        go_ret2
        exact ⟨by rw [HE.out, HT.out, if_neg hc]; rfl, hBw⟩
    · have hE : M.appE s x = 3 := by unfold M.appE; rw [if_neg (by rw [h]; simp), if_pos hx]
      have hT : M.applyT s x = ⟨#[]⟩ := by unfold M.applyT; rw [hE]; rfl
      have hx' : decide (M.isEdit s x) = false := decide_eq_false hx
      obtain ⟨p, c, hf⟩ : ∃ p c, M.fault s.data.toList = (p, c) := ⟨_, _, rfl⟩
      rw [hf] at h
      dsimp only at h
      subst h
      have HX := Lib.hid hx'
      have HE := Lib.hid hE
      have HT := Lib.hid hT
      have HF := Lib.hid hf
      clear hE hT hf hx' hx
      go_enter Tryd.func28, Tryd.ntmps28
      go_wp2_with fail
      refine (refCheck_any s _ hs).mono ?_
      rintro e w1 ⟨rfl, hB1⟩
      rw [HF.out]
      obtain ⟨⟨x0, x1, x2⟩, hBw, hlt⟩ := box1 hB1
      clear hB1
      dsimp only
      go_wp2_with fail
      refine (refIsEdit_any s x w1 hs).mono ?_
      rintro e w2 ⟨rfl, hB2⟩
      rw [HX.out]
      go_wp2_with fail
      go_ret2
      exact ⟨by rw [HE.out, HT.out]; rfl, below2 hBw hB2⟩
  · have hE : M.appE s x = (M.fault s.data.toList).2 := by unfold M.appE; rw [if_pos h]
    have hT : M.applyT s x = ⟨#[]⟩ := by unfold M.applyT; rw [if_neg (by rw [hE]; exact h)]
    obtain ⟨p, c, hf⟩ : ∃ p c, M.fault s.data.toList = (p, c) := ⟨_, _, rfl⟩
    rw [hf] at h hE
    dsimp only at h hE
    have h3 : ((c : Int) == 0) = false := by rw [beq_eq_false_iff_ne]; omega
    have h4 : ((c : Int) != 0) = true := by rw [bne_iff_ne]; omega
    have HE := Lib.hid hE
    have HT := Lib.hid hT
    have HF := Lib.hid hf
    clear hE hT hf
    go_enter Tryd.func28, Tryd.ntmps28
    go_wp2_with fail
    refine (refCheck_any s _ hs).mono ?_
    rintro e w1 ⟨rfl, hB1⟩
    rw [HF.out]
    have hBw := below2 (below1 w _) hB1
    clear hB1
    dsimp only
    go_wp2_with fail
    go_ret2
    exact ⟨by rw [HE.out, HT.out]; rfl, hBw⟩

set_option maxHeartbeats 1000000 in
set_option maxRecDepth 100000 in
theorem refUndo_any (s : ByteArray) (x : M.Ed) (w : World) (hs : s.size ≤ maxLen) (hp : x.put.size ≤ 140737488355328) :
    Calls Tryd.prog 29 #[.string s, edV x] w fun e w' => e = .returned (.tuple #[edV (M.undo s x), .int .i64 (M.appE s x)]) ∧ Below w.heap.size w w' := by
  have HA := Lib.hid fun W => refApply_any s x W hs hp
  by_cases hE : M.appE s x = 0
  · obtain ⟨hf, ⟨i1, i2, i3⟩, _⟩ := M.appE_ok hE
    have hsm : s.size ≤ 2500 := by rw [← M.size_list]; exact M.fault_small s.data.toList hf
    have hu := M.undo_eq hE
    obtain ⟨t, ht⟩ : ∃ t, M.applyT s x = t := ⟨_, rfl⟩
    have HT := Lib.hid ht
    have HU := Lib.hid hu
    have HE := Lib.hid hE
    clear hu ht hf hE
    obtain ⟨xf, xt, xp⟩ := x
    dsimp only at i1 i2 i3 hp HU
    obtain ⟨a, rfl⟩ := Int.eq_ofNat_of_zero_le i1
    obtain ⟨b, rfl⟩ := Int.eq_ofNat_of_zero_le (Int.le_trans i1 i2)
    have k1 : a ≤ s.size := by omega
    have k2 : b ≤ s.size := by omega
    have k3 : a ≤ b := by omega
    have k4 : (a : Int) + (xp.size : Int) ≤ 9223372036854775807 := by omega
    have k5 : (-9223372036854775808 : Int) ≤ (a : Int) + (xp.size : Int) := by omega
    have k6 : ((a : Int) ≤ (b : Int)) := by omega
    go_enter Tryd.func29, Tryd.ntmps29
    go_wp2_with fail
    refine (HA.out _).mono ?_
    rintro e w1 ⟨rfl, hB1⟩
    rw [HT.out, HE.out]
    obtain ⟨x0, x1, x2, hr, hBw, hz⟩ := box_cells (x := ⟨a, b, xp⟩) hB1
    obtain ⟨⟨q0, q1, q2⟩, f0, f1, f2⟩ := res3 hr
    have hlt : w.heap.size + 1 < w1.heap.size := by omega
    have hlt0 : w.heap.size < w1.heap.size := by omega
    clear hB1 hr
    dsimp only at x0 x1 x2
    go_wp2_with fail
    refine still_tail 15 (by kernel_rfl) (by kernel_rfl) ?_
    simp only [List.take_succ_cons, List.take_zero, List.drop_succ_cons, List.drop_zero]
    repeat still_step
    refine wpStill_nil ?_
    go_wp2_with fail
    refine bodyPost_ret (v := .tuple #[edV ⟨a, (a : Int) + (xp.size : Int), s.extract a b⟩, .int .i64 0]) (by simp [results, Tryd.results29, go_sem, q0, q1, q2]) rfl ?_
    exact ⟨by rw [HU.out, HE.out]; rfl, (below3 hBw _ (by omega) _ _ _).drew⟩
  · have hu : M.undo s x = ⟨0, 0, ⟨#[]⟩⟩ := by unfold M.undo; rw [if_neg hE]
    obtain ⟨t, ht⟩ : ∃ t, M.applyT s x = t := ⟨_, rfl⟩
    obtain ⟨c, hc⟩ : ∃ c, M.appE s x = c := ⟨_, rfl⟩
    rw [hc] at hE
    have h3 : ((c : Int) == 0) = false := by rw [beq_eq_false_iff_ne]; omega
    have h4 : ((c : Int) != 0) = true := by rw [bne_iff_ne]; omega
    have HT := Lib.hid ht
    have HU := Lib.hid hu
    have HC := Lib.hid hc
    clear ht hu hc hs hp
    go_enter Tryd.func29, Tryd.ntmps29
    go_wp2_with fail
    refine (HA.out _).mono ?_
    rintro e w1 ⟨rfl, hB1⟩
    rw [HT.out, HC.out]
    obtain ⟨x0, x1, x2, hr, hBw, hz⟩ := box_cells hB1
    obtain ⟨⟨q0, q1, q2⟩, f0, f1, f2⟩ := res3 hr
    have hlt : w.heap.size + 1 < w1.heap.size := by omega
    clear hB1 hr
    go_wp2_with fail
    refine bodyPost_ret (v := .tuple #[edV ⟨0, 0, ⟨#[]⟩⟩, .int .i64 c]) (by simp [results, Tryd.results29, go_sem, q0, q1, q2]) rfl ?_
    exact ⟨by rw [HU.out, HC.out], below3 hBw _ (by omega) _ _ _⟩

end Go.Proofs.YtglpbhfcjaonlaaDoor
