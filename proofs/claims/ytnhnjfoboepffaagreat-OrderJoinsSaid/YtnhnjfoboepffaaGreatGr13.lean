/- Texts of one's own, joined: OrdSb. -/
import Derived.Test.YtnhnjfoboepffaaGreatGr11
namespace Go.Proofs.YtnhnjfoboepffaaGreat
open Go.RowKit

namespace M
/-- How many kids the shapes of a kind have. -/
def kidsN (k : Nat) : Nat := if k = 6 then 1 else if k = 7 then 2 else 0
/-- What is asked of a shape itself. -/
def headB (k : Nat) (n : ByteArray) (l : Nat) : Bool := (decide (1 ≤ k) && decide (k ≤ 7) && decide (l = kidsN k)) && (if k = 5 then isTabB n else decide (n.size = 0))
mutual
/-- Whether a shape has its form. -/
def Sh.okB : Sh → Bool
  | .mk k n ks => headB k n ks.length && Sh.okAll ks
def Sh.okAll : List Sh → Bool
  | [] => true
  | s :: ks => s.okB && Sh.okAll ks
end
theorem Sh.okAll_eq : ∀ ks : List Sh, Sh.okAll ks = ks.all Sh.okB
  | [] => rfl
  | s :: ks => by rw [Sh.okAll, Sh.okAll_eq ks]; rfl
theorem Sh.okB_eq (s : Sh) : s.okB = (headB s.kind s.name s.kids.length && s.kids.all Sh.okB) := by
  cases s with
  | mk k n ks => rw [Sh.okB, Sh.okAll_eq]; rfl
end M

set_option maxHeartbeats 1000000 in
set_option maxRecDepth 100000 in
theorem kidsOf_any (k : Nat) (w : World) : Calls Tryz.prog 66 #[.int .u8 k] w fun e w' => e = .returned (.int .i64 (M.kidsN k : Nat)) ∧ w = w' := by
  by_cases h6 : k = 6
  · subst h6
    go_enter Tryz.func66, Tryz.ntmps66
    go_wp2_with fail
    go_ret
    exact ⟨rfl, rfl⟩
  · have k1 : ((k : Int) == 6) = false := by rw [beq_eq_false_iff_ne]; omega
    by_cases h7 : k = 7
    · subst h7
      go_enter Tryz.func66, Tryz.ntmps66
      go_wp2_with fail
      go_ret
      exact ⟨rfl, rfl⟩
    · have k2 : ((k : Int) == 7) = false := by rw [beq_eq_false_iff_ne]; omega
      have HR := Lib.hid (show M.kidsN k = 0 from by unfold M.kidsN; rw [if_neg h6, if_neg h7])
      clear h6 h7
      go_enter Tryz.func66, Tryz.ntmps66
      go_wp2_with fail
      go_ret
      exact ⟨by rw [HR.out]; rfl, rfl⟩

theorem enters_every_shp : ∀ args w, (callFunc 87 args).run Tryz.prog w = .ok (.enter 87 args) w := enters_of Tryz.func87 (by kernel_rfl) rfl

set_option maxHeartbeats 1000000 in
set_option maxRecDepth 100000 in
theorem every1_shp (s : M.Sh) (a : Option Addr) (c b g : Nat) (lb : Array Value) (r : Bool) (w : World) (hc : w.cell? ⟨b, 0, none⟩ = some (.func (.func g) #[] lb))
    (eg : ∀ args w, (callFunc g args).run Tryz.prog w = .ok (.enter g args) w)
    (hcl : ∀ w1, Below w.heap.size w w1 → Calls Tryz.prog g (#[shV s a c] ++ lb) w1 fun e w2 => e = .returned (.bool r) ∧ Below w1.heap.size w1 w2) :
    Calls Tryz.prog 87 #[shV s a c, .pointer (some ⟨b, 0, none⟩)] w fun e w' => e = .returned (.bool (!r)) ∧ Below w.heap.size w w' := by
  have HB := Lib.hid (below1 w (.cells #[.int .u8 s.kind, .string s.name, .slice a s.kids.length c] 53))
  have hcall := hcl _ HB.out
  have HCL := Lib.hid hcall
  have hb : b < w.heap.size := World.block_lt_of_cell? w ⟨b, 0, none⟩ hc
  clear hcl hcall
  go_enter Tryz.func87, Tryz.ntmps87
  go_wp2_with fail
  refine HCL.out.mono ?_
  rintro e w2 ⟨rfl, hB2⟩
  have hB := below2 HB.out hB2
  go_wp2_with fail
  go_ret
  exact ⟨rfl, hB⟩

set_option maxHeartbeats 1000000 in
set_option maxRecDepth 100000 in
theorem every_shp (s : M.Sh) (a : Option Addr) (c g : Nat) (lb : Array Value) (p : Nat → Bool) (w : World) (hs : ShAt w s a c)
    (eg : ∀ args w, (callFunc g args).run Tryz.prog w = .ok (.enter g args) w)
    (hcl : ∀ i, (hi : i < s.kids.length) → ∀ w1 a' c', Below w.heap.size w w1 → ShAt w1 s.kids[i] a' c' → Calls Tryz.prog g (#[shV s.kids[i] a' c'] ++ lb) w1 fun e w2 => e = .returned (.bool (p i)) ∧ Below w1.heap.size w1 w2) :
    Calls Tryz.prog 68 #[.slice a s.kids.length c, .func (.func g) #[] lb] w fun e w' => e = .returned (.bool (M.allN p s.kids.length)) ∧ Below w.heap.size w w' := by
  have HS := Lib.hid hs
  have HCL := Lib.hid hcl
  clear hs hcl
  go_enter Tryz.func68, Tryz.ntmps68
  go_wp2_with fail
  refine (contF_shp s a c 87 #[.pointer (some ⟨w.heap.size, 0, none⟩)] p _ (HS.out.below (below1 _ _)) enters_every_shp (fun i hi w1 a' c' hB1 hsh => every1_shp s.kids[i] a' c' w.heap.size g lb (p i) w1 (by
    rw [hB1.cell (by simp), World.cell?_alloc_at _ _ _ _ rfl]; rfl) eg (fun w2 hB2 => HCL.out i hi w2 a' c' (below2 (below2 (below1 _ _) hB1) hB2) (hsh.below hB2)))).mono ?_
  rintro e w2 ⟨rfl, hB2⟩
  go_wp2_with fail
  go_ret
  exact ⟨ret_bool (by simp), below2 (below1 _ _) hB2⟩

theorem enters_isShape : ∀ args w, (callFunc 41 args).run Tryz.prog w = .ok (.enter 41 args) w := enters_of Tryz.func41 (by kernel_rfl) rfl

set_option maxHeartbeats 4000000 in
set_option maxRecDepth 100000 in
theorem isShape_any : ∀ (d : Nat) (s : M.Sh) (a : Option Addr) (c : Nat) (w : World), s.sz < d → ShAt w s a c →
    Calls Tryz.prog 41 #[shV s a c] w fun e w' => e = .returned (.bool s.okB) ∧ Below w.heap.size w w' := by
  intro d
  induction d with
  | zero => intro s a c w h; omega
  | succ d ih =>
    intro s a c w hd hs
    have HB := Lib.hid (below1 w (.cells #[.int .u8 s.kind, .string s.name, .slice a s.kids.length c] 53))
    have hcall := fun W (hW : Below w.heap.size w W) => every_shp s a c 41 #[] (fun i => (s.kids.getD i (.mk 0 ⟨#[]⟩ [])).okB) W (hs.below hW) enters_isShape (fun i hi w1 a' c' hB1 hsh => by
      rw [getD_in _ _ _ hi]
      exact ih s.kids[i] a' c' w1 (by have := M.Sh.sz_lt s i hi; omega) hsh)
    rw [M.allN_all s.kids (.mk 0 ⟨#[]⟩ []) M.Sh.okB] at hcall
    have HC := Lib.hid hcall
    have HR := Lib.hid (M.Sh.okB_eq s)
    have hlk := hs.parts.2.2.1
    obtain ⟨c0, c1, c2⟩ := shBox (s := s) (a := a) (c := c) (box_new w _ 53)
    obtain ⟨k, hk⟩ : ∃ k, s.kind = k := ⟨_, rfl⟩
    obtain ⟨nm, hnm⟩ : ∃ nm, s.name = nm := ⟨_, rfl⟩
    obtain ⟨l, hl⟩ : ∃ l, s.kids.length = l := ⟨_, rfl⟩
    obtain ⟨r, hr⟩ : ∃ r, s.kids.all M.Sh.okB = r := ⟨_, rfl⟩
    unfold shV
    rw [hk, hnm, hl] at c0 c1 c2 HB ⊢
    rw [hl] at HC hlk
    rw [hr] at HC
    rw [hk, hnm, hl, hr] at HR
    clear hs hcall ih hk hnm hl hr hd
    have HKO := Lib.hid fun W => kidsOf_any k W
    have bad : M.headB k nm l = false → s.okB = false := fun h => by rw [HR.out, h]; rfl
    have HBAD := Lib.hid bad
    clear bad
    by_cases h1 : k < 1
    · have d1 : decide ((k : Int) < 1) = true := decide_eq_true (by omega)
      have HX := Lib.hid (HBAD.out (by unfold M.headB; rw [decide_eq_false (show ¬ 1 ≤ k by omega)]; rfl))
      clear h1
      go_enter Tryz.func41, Tryz.ntmps41
      go_wp2_with fail
      go_quiet (fail)
      go_wp2_with fail
      go_ret
      exact ⟨ret_bool HX.out.symm, belowN HB.out _⟩
    · have d1 : decide ((k : Int) < 1) = false := decide_eq_false (by omega)
      by_cases h7 : 7 < k
      · have d2 : decide ((7 : Int) < (k : Int)) = true := decide_eq_true (by omega)
        have HX := Lib.hid (HBAD.out (by unfold M.headB; rw [decide_eq_false (show ¬ k ≤ 7 by omega), Bool.and_false]; rfl))
        clear h1 h7
        go_enter Tryz.func41, Tryz.ntmps41
        go_wp2_with fail
        go_quiet (fail)
        go_wp2_with fail
        go_ret
        exact ⟨ret_bool HX.out.symm, belowN HB.out _⟩
      · have d2 : decide ((7 : Int) < (k : Int)) = false := decide_eq_false (by omega)
        have hcn : ∀ q, Calls Tryz.prog 66 #[.int .u8 k] ((w.alloc (.cells #[.int .u8 k, .string nm, .slice a l c] 53)).drewN q) fun e w' => e = .returned (.int .i64 (M.kidsN k : Nat)) ∧ w' = (w.alloc (.cells #[.int .u8 k, .string nm, .slice a l c] 53)).drewN q := fun q => (HKO.out _).mono fun _ _ ⟨he, hw⟩ => ⟨he, hw.symm⟩
        have HCN := Lib.hid hcn
        clear hcn
        by_cases hkn : l = M.kidsN k
        · have k1 : ((l : Int) == (M.kidsN k : Nat)) = true := by rw [hkn]; exact beq_self_eq_true _
          have k2 : ((l : Int) != (M.kidsN k : Nat)) = false := by rw [hkn]; exact bne_self_eq_false _
          have hh : M.headB k nm l = (if k = 5 then M.isTabB nm else decide (nm.size = 0)) := by
            unfold M.headB
            rw [decide_eq_true (show 1 ≤ k by omega), decide_eq_true (show k ≤ 7 by omega), decide_eq_true hkn]; rfl
          have HH := Lib.hid hh
          clear hh hkn h1 h7
          by_cases h5 : k = 5
          · subst h5
            have HT := Lib.hid fun W => isTableName_any nm W
            cases ht : M.isTabB nm with
            | false =>
              have HX := Lib.hid (HBAD.out (by rw [HH.out, if_pos rfl, ht]))
              have HTT := Lib.hid ht
              clear ht
              go_enter Tryz.func41, Tryz.ntmps41
              go_wp2_with fail
              go_quiet ((go_at_call 66; exact Calls.quiet_of_same (HCN.out _)))
              go_wp2_with fail
              refine (HT.out _).mono ?_
              rintro e w1 ⟨rfl, hB1⟩
              rw [HTT.out]
              have hB := below2 (belowN HB.out _) hB1
              go_wp2_with fail
              go_ret
              exact ⟨ret_bool HX.out.symm, hB⟩
            | true =>
              have HX := Lib.hid (show s.okB = r from by rw [HR.out, HH.out, if_pos rfl, ht]; rfl)
              have HTT := Lib.hid ht
              clear ht
              go_enter Tryz.func41, Tryz.ntmps41
              go_wp2_with fail
              go_quiet ((go_at_call 66; exact Calls.quiet_of_same (HCN.out _)))
              go_wp2_with fail
              refine (HT.out _).mono ?_
              rintro e w1 ⟨rfl, hB1⟩
              rw [HTT.out]
              have hB := below2 (belowN HB.out _) hB1
              have y0 := cell_below (w := (w.alloc (.cells #[.int .u8 5, .string nm, .slice a l c] 53)).drewN _) c0 hB1
              have y2 := cell_below (w := (w.alloc (.cells #[.int .u8 5, .string nm, .slice a l c] 53)).drewN _) c2 hB1
              clear hB1 c0 c1 c2
              go_wp2_with fail
              refine (HC.out _ hB).mono ?_
              rintro e w2 ⟨rfl, hB2⟩
              have hBf := below2 hB hB2
              go_wp2_with fail
              go_ret
              exact ⟨ret_bool HX.out.symm, hBf⟩
          · have q1 : ((k : Int) == 5) = false := by rw [beq_eq_false_iff_ne]; omega
            have q2 : ((k : Int) != 5) = true := by rw [bne_iff_ne]; omega
            by_cases hz : nm.size = 0
            · have e1 : nm.toList = [] := by rw [ByteArray.toList_eq nm]; exact List.eq_nil_of_length_eq_zero (by rw [M.size_list]; exact hz)
              have HX := Lib.hid (show s.okB = r from by rw [HR.out, HH.out, if_neg h5, decide_eq_true hz]; rfl)
              clear h5 hz
              go_enter Tryz.func41, Tryz.ntmps41
              go_wp2_with fail
              go_quiet ((go_at_call 66; exact Calls.quiet_of_same (HCN.out _)))
              go_wp2_with fail
              refine (HC.out _ (belowN HB.out _)).mono ?_
              rintro e w2 ⟨rfl, hB2⟩
              have hBf := below2 (belowN HB.out _) hB2
              go_wp2_with fail
              go_ret
              exact ⟨ret_bool HX.out.symm, hBf⟩
            · have e0 : nm.toList ≠ [] := by
                rw [ByteArray.toList_eq nm]
                intro q
                have := M.size_list nm
                rw [q] at this; simp at this; omega
              have e1 : (nm.toList == []) = false := by rw [beq_eq_false_iff_ne]; exact e0
              have e2 : (nm.toList != []) = true := by rw [bne_iff_ne]; exact e0
              have e3 : nm.toList.isEmpty = false := by rw [List.isEmpty_eq_false_iff]; exact e0
              have HX := Lib.hid (HBAD.out (by rw [HH.out, if_neg h5, decide_eq_false hz]))
              clear h5 hz e0
              go_enter Tryz.func41, Tryz.ntmps41
              go_wp2_with fail
              go_quiet ((go_at_call 66; exact Calls.quiet_of_same (HCN.out _)))
              go_wp2_with fail
              go_ret
              exact ⟨ret_bool HX.out.symm, belowN HB.out _⟩
        · have k1 : ((l : Int) == (M.kidsN k : Nat)) = false := by rw [beq_eq_false_iff_ne]; omega
          have k2 : ((l : Int) != (M.kidsN k : Nat)) = true := by rw [bne_iff_ne]; omega
          have HX := Lib.hid (HBAD.out (by unfold M.headB; rw [decide_eq_false hkn, Bool.and_false]; rfl))
          clear hkn h1 h7
          go_enter Tryz.func41, Tryz.ntmps41
          go_wp2_with fail
          go_quiet ((go_at_call 66; exact Calls.quiet_of_same (HCN.out _)))
          go_wp2_with fail
          go_ret
          exact ⟨ret_bool HX.out.symm, belowN HB.out _⟩
end Go.Proofs.YtnhnjfoboepffaaGreat
