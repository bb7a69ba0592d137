/- Texts of one's own, joined: OrdSb, OrdSc. -/
import Derived.Test.YtnhnjfoboepffaaGr10
import Derived.Test.YtnhnjfoboepffaaGr1
import Derived.Laws.Concat
import Derived.Deep.DeepCutAuto
import Derived.Deep.RegionWith
namespace Go.Proofs.Ytnhnjfoboepffaa
open Go.RowKit

namespace M
/-- How many kids the shapes of a kind have. -/
def kidsN (k : Nat) : Nat := if k = 6 then 1 else if k = 7 then 2 else 0
/-- What is asked of a shape itself. -/
def headB (k : Nat) (n : ByteArray) (l : Nat) : Bool := (decide (1 ≤ k) && decide (k ≤ 7) && decide (l = kidsN k)) && (if k = 5 then isTabB n else decide (n.size = 0))
mutual
/-- Whether a shape has its form. -/
def Sh.okB : Sh → Bool
  | .mk k n ks => headB k n ks.length && Sh.okAll ks
def Sh.okAll : List Sh → Bool
  | [] => true
  | s :: ks => s.okB && Sh.okAll ks
end
theorem Sh.okAll_eq : ∀ ks : List Sh, Sh.okAll ks = ks.all Sh.okB
  | [] => rfl
  | s :: ks => by rw [Sh.okAll, Sh.okAll_eq ks]; rfl
theorem Sh.okB_eq (s : Sh) : s.okB = (headB s.kind s.name s.kids.length && s.kids.all Sh.okB) := by
  cases s with
  | mk k n ks => rw [Sh.okB, Sh.okAll_eq]; rfl
end M

set_option maxHeartbeats 1000000 in
set_option maxRecDepth 100000 in
theorem kidsOf_any (k : Nat) (w : World) : Calls Try.prog 72 #[.int .u8 k] w fun e w' => e = .returned (.int .i64 (M.kidsN k : Nat)) ∧ w = w' := by
  by_cases h6 : k = 6
  · subst h6
    go_enter Try.func72, Try.ntmps72
    go_wp2_with fail
    go_ret
    exact ⟨rfl, rfl⟩
  · have k1 : ((k : Int) == 6) = false := by rw [beq_eq_false_iff_ne]; omega
    by_cases h7 : k = 7
    · subst h7
      go_enter Try.func72, Try.ntmps72
      go_wp2_with fail
      go_ret
      exact ⟨rfl, rfl⟩
    · have k2 : ((k : Int) == 7) = false := by rw [beq_eq_false_iff_ne]; omega
      have HR := Lib.hid (show M.kidsN k = 0 from by unfold M.kidsN; rw [if_neg h6, if_neg h7])
      clear h6 h7
      go_enter Try.func72, Try.ntmps72
      go_wp2_with fail
      go_ret
      exact ⟨by rw [HR.out]; rfl, rfl⟩

theorem enters_every_shp : ∀ args w, (callFunc 93 args).run Try.prog w = .ok (.enter 93 args) w := enters_of Try.func93 (by kernel_rfl) rfl

set_option maxHeartbeats 1000000 in
set_option maxRecDepth 100000 in
theorem every1_shp (s : M.Sh) (a : Option Addr) (c b g : Nat) (lb : Array Value) (r : Bool) (w : World) (hc : w.cell? ⟨b, 0, none⟩ = some (.func (.func g) #[] lb))
    (eg : ∀ args w, (callFunc g args).run Try.prog w = .ok (.enter g args) w)
    (hcl : ∀ w1, Below w.heap.size w w1 → Calls Try.prog g (#[shV s a c] ++ lb) w1 fun e w2 => e = .returned (.bool r) ∧ Below w1.heap.size w1 w2) :
    Calls Try.prog 93 #[shV s a c, .pointer (some ⟨b, 0, none⟩)] w fun e w' => e = .returned (.bool (!r)) ∧ Below w.heap.size w w' := by
  have HB := Lib.hid (below1 w (.cells #[.int .u8 s.kind, .string s.name, .slice a s.kids.length c] 57))
  have hcall := hcl _ HB.out
  have HCL := Lib.hid hcall
  have hb : b < w.heap.size := World.block_lt_of_cell? w ⟨b, 0, none⟩ hc
  clear hcl hcall
  go_enter Try.func93, Try.ntmps93
  go_wp2_with fail
  refine HCL.out.mono ?_
  rintro e w2 ⟨rfl, hB2⟩
  have hB := below2 HB.out hB2
  go_wp2_with fail
  go_ret
  exact ⟨rfl, hB⟩

set_option maxHeartbeats 1000000 in
set_option maxRecDepth 100000 in
theorem every_shp (s : M.Sh) (a : Option Addr) (c g : Nat) (lb : Array Value) (p : Nat → Bool) (w : World) (hs : ShAt w s a c)
    (eg : ∀ args w, (callFunc g args).run Try.prog w = .ok (.enter g args) w)
    (hcl : ∀ i, (hi : i < s.kids.length) → ∀ w1 a' c', Below w.heap.size w w1 → ShAt w1 s.kids[i] a' c' → Calls Try.prog g (#[shV s.kids[i] a' c'] ++ lb) w1 fun e w2 => e = .returned (.bool (p i)) ∧ Below w1.heap.size w1 w2) :
    Calls Try.prog 74 #[.slice a s.kids.length c, .func (.func g) #[] lb] w fun e w' => e = .returned (.bool (M.allN p s.kids.length)) ∧ Below w.heap.size w w' := by
  have HS := Lib.hid hs
  have HCL := Lib.hid hcl
  clear hs hcl
  go_enter Try.func74, Try.ntmps74
  go_wp2_with fail
  refine (contF_shp s a c 93 #[.pointer (some ⟨w.heap.size, 0, none⟩)] p _ (HS.out.below (below1 _ _)) enters_every_shp (fun i hi w1 a' c' hB1 hsh => every1_shp s.kids[i] a' c' w.heap.size g lb (p i) w1 (by
    rw [hB1.cell (by simp), World.cell?_alloc_at _ _ _ _ rfl]; rfl) eg (fun w2 hB2 => HCL.out i hi w2 a' c' (below2 (below2 (below1 _ _) hB1) hB2) (hsh.below hB2)))).mono ?_
  rintro e w2 ⟨rfl, hB2⟩
  go_wp2_with fail
  go_ret
  exact ⟨ret_bool (by simp), below2 (below1 _ _) hB2⟩

theorem enters_isShape : ∀ args w, (callFunc 48 args).run Try.prog w = .ok (.enter 48 args) w := enters_of Try.func48 (by kernel_rfl) rfl

set_option maxHeartbeats 4000000 in
set_option maxRecDepth 100000 in
theorem isShape_any : ∀ (d : Nat) (s : M.Sh) (a : Option Addr) (c : Nat) (w : World), s.sz < d → ShAt w s a c →
    Calls Try.prog 48 #[shV s a c] w fun e w' => e = .returned (.bool s.okB) ∧ Below w.heap.size w w' := by
  intro d
  induction d with
  | zero => intro s a c w h; omega
  | succ d ih =>
    intro s a c w hd hs
    have HB := Lib.hid (below1 w (.cells #[.int .u8 s.kind, .string s.name, .slice a s.kids.length c] 57))
    have hcall := fun W (hW : Below w.heap.size w W) => every_shp s a c 48 #[] (fun i => (s.kids.getD i (.mk 0 ⟨#[]⟩ [])).okB) W (hs.below hW) enters_isShape (fun i hi w1 a' c' hB1 hsh => by
      rw [getD_in _ _ _ hi]
      exact ih s.kids[i] a' c' w1 (by have := M.Sh.sz_lt s i hi; omega) hsh)
    rw [M.allN_all s.kids (.mk 0 ⟨#[]⟩ []) M.Sh.okB] at hcall
    have HC := Lib.hid hcall
    have HR := Lib.hid (M.Sh.okB_eq s)
    have hlk := hs.parts.2.2.1
    obtain ⟨c0, c1, c2⟩ := shBox (s := s) (a := a) (c := c) (box_new w _ 57)
    obtain ⟨k, hk⟩ : ∃ k, s.kind = k := ⟨_, rfl⟩
    obtain ⟨nm, hnm⟩ : ∃ nm, s.name = nm := ⟨_, rfl⟩
    obtain ⟨l, hl⟩ : ∃ l, s.kids.length = l := ⟨_, rfl⟩
    obtain ⟨r, hr⟩ : ∃ r, s.kids.all M.Sh.okB = r := ⟨_, rfl⟩
    unfold shV
    rw [hk, hnm, hl] at c0 c1 c2 HB ⊢
    rw [hl] at HC hlk
    rw [hr] at HC
    rw [hk, hnm, hl, hr] at HR
    clear hs hcall ih hk hnm hl hr hd
    have HKO := Lib.hid fun W => kidsOf_any k W
    have bad : M.headB k nm l = false → s.okB = false := fun h => by rw [HR.out, h]; rfl
    have HBAD := Lib.hid bad
    clear bad
    by_cases h1 : k < 1
    · have d1 : decide ((k : Int) < 1) = true := decide_eq_true (by omega)
      have HX := Lib.hid (HBAD.out (by unfold M.headB; rw [decide_eq_false (show ¬ 1 ≤ k by omega)]; rfl))
      clear h1
      go_enter Try.func48, Try.ntmps48
      go_wp2_with fail
      go_quiet (fail)
      go_wp2_with fail
      go_ret
      exact ⟨ret_bool HX.out.symm, belowN HB.out _⟩
    · have d1 : decide ((k : Int) < 1) = false := decide_eq_false (by omega)
      by_cases h7 : 7 < k
      · have d2 : decide ((7 : Int) < (k : Int)) = true := decide_eq_true (by omega)
        have HX := Lib.hid (HBAD.out (by unfold M.headB; rw [decide_eq_false (show ¬ k ≤ 7 by omega), Bool.and_false]; rfl))
        clear h1 h7
        go_enter Try.func48, Try.ntmps48
        go_wp2_with fail
        go_quiet (fail)
        go_wp2_with fail
        go_ret
        exact ⟨ret_bool HX.out.symm, belowN HB.out _⟩
      · have d2 : decide ((7 : Int) < (k : Int)) = false := decide_eq_false (by omega)
        have hcn : ∀ q, Calls Try.prog 72 #[.int .u8 k] ((w.alloc (.cells #[.int .u8 k, .string nm, .slice a l c] 57)).drewN q) fun e w' => e = .returned (.int .i64 (M.kidsN k : Nat)) ∧ w' = (w.alloc (.cells #[.int .u8 k, .string nm, .slice a l c] 57)).drewN q := fun q => (HKO.out _).mono fun _ _ ⟨he, hw⟩ => ⟨he, hw.symm⟩
        have HCN := Lib.hid hcn
        clear hcn
        by_cases hkn : l = M.kidsN k
        · have k1 : ((l : Int) == (M.kidsN k : Nat)) = true := by rw [hkn]; exact beq_self_eq_true _
          have k2 : ((l : Int) != (M.kidsN k : Nat)) = false := by rw [hkn]; exact bne_self_eq_false _
          have hh : M.headB k nm l = (if k = 5 then M.isTabB nm else decide (nm.size = 0)) := by
            unfold M.headB
            rw [decide_eq_true (show 1 ≤ k by omega), decide_eq_true (show k ≤ 7 by omega), decide_eq_true hkn]; rfl
          have HH := Lib.hid hh
          clear hh hkn h1 h7
          by_cases h5 : k = 5
          · subst h5
            have HT := Lib.hid fun W => isTableName_any nm W
            cases ht : M.isTabB nm with
            | false =>
              have HX := Lib.hid (HBAD.out (by rw [HH.out, if_pos rfl, ht]))
              have HTT := Lib.hid ht
              clear ht
              go_enter Try.func48, Try.ntmps48
              go_wp2_with fail
              go_quiet ((go_at_call 72; exact Calls.quiet_of_same (HCN.out _)))
              go_wp2_with fail
              refine (HT.out _).mono ?_
              rintro e w1 ⟨rfl, hB1⟩
              rw [HTT.out]
              have hB := below2 (belowN HB.out _) hB1
              go_wp2_with fail
              go_ret
              exact ⟨ret_bool HX.out.symm, hB⟩
            | true =>
              have HX := Lib.hid (show s.okB = r from by rw [HR.out, HH.out, if_pos rfl, ht]; rfl)
              have HTT := Lib.hid ht
              clear ht
              go_enter Try.func48, Try.ntmps48
              go_wp2_with fail
              go_quiet ((go_at_call 72; exact Calls.quiet_of_same (HCN.out _)))
              go_wp2_with fail
              refine (HT.out _).mono ?_
              rintro e w1 ⟨rfl, hB1⟩
              rw [HTT.out]
              have hB := below2 (belowN HB.out _) hB1
              have y0 := cell_below (w := (w.alloc (.cells #[.int .u8 5, .string nm, .slice a l c] 57)).drewN _) c0 hB1
              have y2 := cell_below (w := (w.alloc (.cells #[.int .u8 5, .string nm, .slice a l c] 57)).drewN _) c2 hB1
              clear hB1 c0 c1 c2
              go_wp2_with fail
              refine (HC.out _ hB).mono ?_
              rintro e w2 ⟨rfl, hB2⟩
              have hBf := below2 hB hB2
              go_wp2_with fail
              go_ret
              exact ⟨ret_bool HX.out.symm, hBf⟩
          · have q1 : ((k : Int) == 5) = false := by rw [beq_eq_false_iff_ne]; omega
            have q2 : ((k : Int) != 5) = true := by rw [bne_iff_ne]; omega
            by_cases hz : nm.size = 0
            · have e1 : nm.toList = [] := by rw [ByteArray.toList_eq nm]; exact List.eq_nil_of_length_eq_zero (by rw [M.size_list]; exact hz)
              have HX := Lib.hid (show s.okB = r from by rw [HR.out, HH.out, if_neg h5, decide_eq_true hz]; rfl)
              clear h5 hz
              go_enter Try.func48, Try.ntmps48
              go_wp2_with fail
              go_quiet ((go_at_call 72; exact Calls.quiet_of_same (HCN.out _)))
              go_wp2_with fail
              refine (HC.out _ (belowN HB.out _)).mono ?_
              rintro e w2 ⟨rfl, hB2⟩
              have hBf := below2 (belowN HB.out _) hB2
              go_wp2_with fail
              go_ret
              exact ⟨ret_bool HX.out.symm, hBf⟩
            · have e0 : nm.toList ≠ [] := by
                rw [ByteArray.toList_eq nm]
                intro q
                have := M.size_list nm
                rw [q] at this; simp at this; omega
              have e1 : (nm.toList == []) = false := by rw [beq_eq_false_iff_ne]; exact e0
              have e2 : (nm.toList != []) = true := by rw [bne_iff_ne]; exact e0
              have e3 : nm.toList.isEmpty = false := by rw [List.isEmpty_eq_false_iff]; exact e0
              have HX := Lib.hid (HBAD.out (by rw [HH.out, if_neg h5, decide_eq_false hz]))
              clear h5 hz e0
              go_enter Try.func48, Try.ntmps48
              go_wp2_with fail
              go_quiet ((go_at_call 72; exact Calls.quiet_of_same (HCN.out _)))
              go_wp2_with fail
              go_ret
              exact ⟨ret_bool HX.out.symm, belowN HB.out _⟩
        · have k1 : ((l : Int) == (M.kidsN k : Nat)) = false := by rw [beq_eq_false_iff_ne]; omega
          have k2 : ((l : Int) != (M.kidsN k : Nat)) = true := by rw [bne_iff_ne]; omega
          have HX := Lib.hid (HBAD.out (by unfold M.headB; rw [decide_eq_false hkn, Bool.and_false]; rfl))
          clear hkn h1 h7
          go_enter Try.func48, Try.ntmps48
          go_wp2_with fail
          go_quiet ((go_at_call 72; exact Calls.quiet_of_same (HCN.out _)))
          go_wp2_with fail
          go_ret
          exact ⟨ret_bool HX.out.symm, belowN HB.out _⟩
end Go.Proofs.Ytnhnjfoboepffaa

namespace Go.Proofs.Ytnhnjfoboepffaa
open Go.RowKit

namespace M
def wordK (k : Nat) : ByteArray := words8.getD k ⟨#[]⟩
mutual
/-- The text of a shape that has its form. -/
def Sh.txt : Sh → List UInt8
  | .mk k n ks => if k = 5 then bl n else if ks.length = 0 then bl (wordK k) else bl (wordK k) ++ [40] ++ Lib.join (Sh.txts ks) [44, 32] ++ [41]
def Sh.txts : List Sh → List (List UInt8)
  | [] => []
  | s :: ks => s.txt :: Sh.txts ks
end
theorem Sh.txts_eq : ∀ ks : List Sh, Sh.txts ks = ks.map Sh.txt
  | [] => rfl
  | s :: ks => by rw [Sh.txts, Sh.txts_eq ks]; rfl
theorem Sh.txt_named (s : Sh) (h : s.kind = 5) : s.txt = bl s.name := by
  cases s with
  | mk k n ks => have : k = 5 := h; subst this; rw [Sh.txt]; rfl
theorem Sh.txt_none (s : Sh) (h : s.kind ≠ 5) (hk : s.kids.length = 0) : s.txt = bl (wordK s.kind) := by
  cases s with
  | mk k n ks =>
    have h' : k ≠ 5 := h
    have hk' : ks.length = 0 := hk
    rw [Sh.txt, if_neg h', if_pos hk']; rfl
theorem Sh.txt_some (s : Sh) (h : s.kind ≠ 5) (hk : s.kids.length ≠ 0) : s.txt = bl (wordK s.kind) ++ [40] ++ Lib.join (s.kids.map Sh.txt) [44, 32] ++ [41] := by
  cases s with
  | mk k n ks =>
    have h' : k ≠ 5 := h
    have hk' : ks.length ≠ 0 := hk
    rw [Sh.txt, if_neg h', if_neg hk', Sh.txts_eq]; rfl
theorem wordK_len (k : Nat) (h : k < 8) : (wordK k).size ≤ 4 := by
  have : ∀ k, k < 8 → (wordK k).size ≤ 4 := by decide
  exact this k h
theorem Sh.szs_eq : ∀ ks : List Sh, Sh.szs ks = (ks.map Sh.sz).sum
  | [] => rfl
  | s :: ks => by rw [Sh.szs, Sh.szs_eq ks]; rfl
theorem Sh.sz_eq (s : Sh) : s.sz = (s.kids.map Sh.sz).sum + 1 := by
  cases s with
  | mk k n ks => rw [Sh.sz, Sh.szs_eq]; rfl
theorem tab_len {s : ByteArray} (h : isTabB s = true) : s.size ≤ 12 := by
  unfold isTabB isNameB at h
  simp only [Bool.and_eq_true, decide_eq_true_eq] at h
  have := h.1.1.1.2
  rwa [size_list] at this
theorem joinS_len : ∀ xs : List (List UInt8), (Lib.join xs [44, 32]).length ≤ (xs.map fun x => x.length + 2).sum
  | [] => by rw [Lib.join_nil]; simp
  | x :: r => by
    rw [Lib.join_cons, List.length_append, List.map_cons, List.sum_cons]
    have : ∀ r : List (List UInt8), (Lib.joinTail [44, 32] r).length = (r.map fun x => x.length + 2).sum := fun r => by
      induction r with
      | nil => rfl
      | cons y r ih =>
        unfold Lib.joinTail at ih ⊢
        rw [List.map_cons, List.flatten_cons, List.length_append, ih, List.map_cons, List.sum_cons]
        simp only [List.length_append, List.length_cons, List.length_nil]; omega
    rw [this]; omega
theorem Sh.txt_len : ∀ (d : Nat) (s : Sh), s.sz < d → s.okB = true → s.txt.length + 2 ≤ 20 * s.sz := by
  intro d
  induction d with
  | zero => intro s h; omega
  | succ d ih =>
    intro s hd hok
    rw [Sh.okB_eq, Bool.and_eq_true, List.all_eq_true] at hok
    obtain ⟨hh, hall⟩ := hok
    unfold headB at hh
    simp only [Bool.and_eq_true, decide_eq_true_eq] at hh
    obtain ⟨⟨⟨h1, h7⟩, _⟩, hn⟩ := hh
    have hsz := Sh.sz_eq s
    by_cases h5 : s.kind = 5
    · rw [Sh.txt_named s h5, bl_len]
      rw [if_pos h5] at hn
      have := tab_len hn
      omega
    · by_cases hk : s.kids.length = 0
      · rw [Sh.txt_none s h5 hk, bl_len]
        have := wordK_len s.kind (by omega)
        omega
      · rw [Sh.txt_some s h5 hk, List.length_append, List.length_append, List.length_append, bl_len]
        have hw := wordK_len s.kind (by omega)
        have hj := joinS_len (s.kids.map Sh.txt)
        have hsum : ∀ ks : List Sh, (∀ k, k ∈ ks → k.txt.length + 2 ≤ 20 * k.sz) → ((ks.map Sh.txt).map fun x => x.length + 2).sum ≤ 20 * (ks.map Sh.sz).sum := fun ks => by
          induction ks with
          | nil => intro _; simp
          | cons x r ihr =>
            intro h
            have hx := h x List.mem_cons_self
            have hr := ihr (fun k hk => h k (List.mem_cons_of_mem _ hk))
            simp only [List.map_cons, List.sum_cons]
            omega
        have := hsum s.kids (fun k hk => by
          obtain ⟨i, hi, rfl⟩ := List.getElem_of_mem hk
          exact ih _ (by have := Sh.sz_lt s i hi; omega) (hall _ hk))
        simp only [List.length_cons, List.length_nil]
        omega
end M

theorem shapeWords8 (w : World) : Calls Try.prog 75 #[] w fun e w' => e = .returned (.slice (some ⟨w.heap.size, 0, none⟩) 8 8) ∧ StrSl w' (some ⟨w.heap.size, 0, none⟩) M.words8 ∧ Below w.heap.size w w' := shapeWords_any w
/-- The texts of the first kids. -/
def M.kidT (s : M.Sh) (j : Nat) : List (List UInt8) := (s.kids.take j).map M.Sh.txt
theorem M.kidT_len (s : M.Sh) (j : Nat) (h : j ≤ s.kids.length) : (M.kidT s j).length = j := by unfold M.kidT; rw [List.length_map, List.length_take]; omega

set_option maxHeartbeats 8000000 in
set_option maxRecDepth 100000 in
theorem shapeText_any : ∀ (d : Nat) (s : M.Sh) (a : Option Addr) (c : Nat) (w : World), s.sz < d → s.sz ≤ 1000 → s.okB = true → ShAt w s a c →
    Calls Try.prog 49 #[shV s a c] w fun e w' => e = .returned (.string (bs s.txt)) ∧ Below w.heap.size w w' := by
  intro d
  induction d with
  | zero => intro s a c w h; omega
  | succ d ih =>
    intro s a c w hd hsz hok hs
    obtain ⟨i0, hi, hz0, hz1, hz2⟩ := info_parts strInfo
    have HI0 := Lib.hid hi
    have HZ0 := Lib.hid hz0
    have HZ1 := Lib.hid hz1
    have HZ2 := Lib.hid hz2
    clear hi hz0 hz1 hz2
    have hb0 := below1 w (.cells #[.int .u8 s.kind, .string s.name, .slice a s.kids.length c] 57)
    obtain ⟨c0, c1, c2⟩ := shBox (s := s) (a := a) (c := c) (box_new w _ 57)
    have hok2 := hok
    rw [M.Sh.okB_eq, Bool.and_eq_true, List.all_eq_true] at hok2
    obtain ⟨hh, hall⟩ := hok2
    unfold M.headB at hh
    simp only [Bool.and_eq_true, decide_eq_true_eq] at hh
    obtain ⟨⟨⟨h1, h7⟩, hkn⟩, hn⟩ := hh
    have hlk : s.kids.length ≤ 2 := by rw [hkn]; unfold M.kidsN; split <;> (try split) <;> omega
    obtain ⟨W0, hW0⟩ : ∃ W0, w.alloc (.cells #[.int .u8 s.kind, .string s.name, .slice a s.kids.length c] 57) = W0 := ⟨_, rfl⟩
    have hz0 : w.heap.size < W0.heap.size := by rw [← hW0]; simp
    rw [hW0] at hb0 c0 c1 c2
    have HS := Lib.hid (hs.below hb0)
    have HB0 := Lib.hid hb0
    have HALL := Lib.hid hall
    have HTX := Lib.hid (M.Sh.txt_len (d + 1) s hd hok)
    have HNM := Lib.hid (M.Sh.txt_named s)
    have HNO := Lib.hid (M.Sh.txt_none s)
    have HSO := Lib.hid (M.Sh.txt_some s)
    have HIH := Lib.hid (fun (i : Nat) (hi : i < s.kids.length) (a' : Option Addr) (c' : Nat) (W : World) (h : ShAt W (s.kids[i]'hi) a' c') => ih s.kids[i] a' c' W (by have := M.Sh.sz_lt s i hi; omega) (by have := M.Sh.sz_lt s i hi; omega) (hall _ (List.getElem_mem hi)) h)
    obtain ⟨k, hk⟩ : ∃ k, s.kind = k := ⟨_, rfl⟩
    obtain ⟨nm, hnm⟩ : ∃ nm, s.name = nm := ⟨_, rfl⟩
    obtain ⟨l, hl⟩ : ∃ l, s.kids.length = l := ⟨_, rfl⟩
    unfold shV
    rw [hk] at c0
    rw [hnm] at c1
    rw [hl] at c2
    rw [hk, hnm, hl]
    rw [hk, hnm] at HNM
    rw [hk, hl] at HNO HSO
    rw [hk, hnm, hl] at hW0
    rw [hk] at h1 h7
    rw [hl] at hlk
    have HL := Lib.hid hl
    clear hs hb0 hok hall hkn hn ih hk hnm hl hd
    by_cases h5 : k = 5
    · subst h5
      have HR := Lib.hid (HNM.out rfl)
      go_enter Try.func49, Try.ntmps49
      go_wp2_with fail
      go_ret
      exact ⟨by rw [HR.out, bs_bl]; rfl, by first | exact HB0.out | exact below1 _ _⟩
    · have k1 : ((k : Int) == 5) = false := by rw [beq_eq_false_iff_ne]; omega
      have hk8 : k < 8 := by omega
      have hwl := M.wordK_len k hk8
      have n3 : (k : Int) < 8 := by omega
      have n4 : (0 : Int) ≤ (k : Int) := by omega
      go_enter Try.func49, Try.ntmps49
      go_upto_region 3 with fail
      go_cut [3] (fun u wx => u = .string (M.wordK k) ∧ Below W0.heap.size W0 wx)
      case first =>
        have hword : Calls Try.prog 75 #[] W0.drew fun e w' => e = .returned (.slice (some ⟨W0.heap.size, 0, none⟩) 8 8) ∧ w'.cell? ⟨W0.heap.size, k, none⟩ = some (.string (M.wordK k)) ∧ Below W0.drew.heap.size W0.drew w' := (shapeWords8 W0.drew).mono fun e w' ⟨he, hst, hB⟩ => by
          refine ⟨he, ?_, hB⟩
          obtain ⟨b, o, e, hat⟩ := hst.at (i := k) hk8
          cases e
          have := hat.at_ k hk8
          rw [← getD_in M.words8 ⟨#[]⟩ k hk8, Nat.zero_add] at this
          exact this
        have HWD := Lib.hid hword
        clear hword
        go_region_with (go_at_call 75; refine HWD.out.mono ?_; rintro e w4 ⟨rfl, q0, hB4⟩; have q1 := cell_below (w := W0.drew) c0 hB4)
        all_goals
          have hB5 := below2 ((Below.refl W0.heap.size W0).drew) hB4
          clear hB4
          go_wp2_with fail
          go_meet
          exact ⟨rfl, hB5⟩
      case rest =>
        obtain ⟨rfl, hB⟩ := hcut
        have HNN := Lib.hid (HNO.out h5)
        have HSS := Lib.hid (HSO.out h5)
        have HWW := Lib.hid (show bl (M.wordK k) = bl (M.wordK k) from rfl)
        obtain ⟨wd, hwd⟩ : ∃ wd, M.wordK k = wd := ⟨_, rfl⟩
        rw [hwd] at HNN HSS hwl ⊢
        have d2 := cell_below c2 hB
        have hbw := below2 HB0.out hB
        clear hW0 hwd HWW
        by_cases hl0 : l = 0
        · have k2 : ((l : Int) == 0) = true := by rw [hl0]; rfl
          have k3 : (l == 0) = true := by rw [hl0]; rfl
          have HR := Lib.hid (HNN.out hl0)
          clear hl0
          go_wp2_with fail
          go_ret
          exact ⟨by rw [HR.out, bs_bl]; rfl, hbw⟩
        · have k2 : ((l : Int) == 0) = false := by rw [beq_eq_false_iff_ne]; omega
          have k3 : (l == 0) = false := by rw [beq_eq_false_iff_ne]; exact hl0
          have HR := Lib.hid (HSS.out hl0)
          have hlp : 0 < l := by omega
          clear hl0
          go_wp2_with fail
          clear d2
          go_loopw [4, 25] (fun v i wr => ∃ j : Nat, j ≤ l ∧ i = .int .i64 j ∧ Hid (wr.ownsRow wc.heap.size 9 1 v j (txtCs (M.kidT s j))) ∧ Below wc.heap.size wc wr) (fun _ i _ => l - (intOf i).toNat)
          case atStart => exact ⟨0, by omega, rfl, Lib.hid ⟨rfl, Or.inl ⟨rfl, rfl⟩⟩, Below.refl _ _⟩
          case round =>
            rename_i wr
            obtain ⟨j, hj, rfl, HO, hBr⟩ := hrel
            obtain ⟨av, ac, hv⟩ := own_slice HO.out
            subst hv
            have hz := hBr.size
            have hBW := below2 hB hBr
            by_cases hjl : j < l
            · have hjk : j < s.kids.length := by rw [HL.out]; exact hjl
              obtain ⟨b, off, rfl, hbz, a', c', q0, q1, q2, hsh⟩ := ((HS.out.below hBW).parts.2.2.2) j hjk
              have n1 : (j : Int) < (l : Int) := by omega
              have n2 : (0 : Int) ≤ (j : Int) := by omega
              have HE := Lib.hid (fun W (hW : Below wr.heap.size wr W) => HIH.out j hjk a' c' W (hsh.below hW))
              unfold shV at HE
              have hcs : txtCs (M.kidT s (j + 1)) = txtCs (M.kidT s j) ++ [.string (bs s.kids[j].txt)] := by
                unfold M.kidT
                rw [List.take_succ_eq_append_getElem hjk, List.map_append, List.map_singleton, txtCs_snoc]
              obtain ⟨kd, hkd⟩ : ∃ x, s.kids[j] = x := ⟨_, rfl⟩
              rw [hkd] at q0 q1 q2 hcs HE
              obtain ⟨sx, hsx⟩ : ∃ sx, bs kd.txt = sx := ⟨_, rfl⟩
              rw [hsx] at hcs HE
              have HN := Lib.hid hcs
              have HB1 := Lib.hid (below1 wr (.cells #[.int .u8 kd.kind, .string kd.name, .slice a' kd.kids.length c'] 57))
              have hi := HI0.out
              have hy0 := HZ0.out
              have hy1 := HZ1.out
              have hy2 := HZ2.out
              clear hsh hkd hcs hsx
              go_wp2_with fail
              refine (HE.out _ HB1.out).mono ?_
              rintro e w2 ⟨rfl, hB2'⟩
              have hB2 := below2 HB1.out hB2'
              have hz2' := hB2.size
              have HO2 := Lib.hid (own_below HO.out hB2)
              have hBr2 := hBr.trans (hB2.mono hz)
              clear hB2'
              go_wp2_with (at_builtin; refine wpList_append_own _ rfl _ _ 22 rfl wc.heap.size 9 i0 (.string ⟨#[]⟩) 1 16 Try.underlying22 hi hy0 hy1 hy2 rfl (by decide) _ _ _ rfl (HO2.out.alloc _) ⟨w2.heap.size, 0, none⟩ 1 1 [.string sx] rfl rfl ?c1 ?c2 ?c3 ?c4 ?c5 ?_)
              case c1 =>
                intro j u hj
                match j, hj with
                | 0, hj => simp at hj; subst hj; simp [Addr.add]
              case c2 => intro u hu; simp at hu; subst hu; rfl
              case c3 => unfold maxLen; omega
              case c4 => omega
              case c5 => simp; omega
              intro v' w3 hown3 hgrow _
              have hB3 : Below wc.heap.size wc w3 := (hBr2.alloc (by omega) _).grown hgrow (by simp; omega) (fun j hj => (HO2.out.lt j hj).1)
              have R1 := Lib.hid hown3
              clear hown3 hgrow hi hy0 hy1 hy2
              obtain ⟨bv, bc, rfl⟩ := own_slice R1.out
              go_wp2_with fail
              go_roundw
              case rel =>
                refine ⟨j + 1, by omega, by go_num, Lib.hid ?_, hB3⟩
                rw [HN.out]
                exact R1.out
              case measure => simp [intOf]; omega
            · obtain rfl : j = l := by omega
              have m1 : decide ((j : Int) < (j : Int)) = false := decide_eq_false (by omega)
              have hkl := M.kidT_len s j (by rw [HL.out]; exact Nat.le_refl _)
              obtain ⟨jb, jc, e, hjc, hjb, hcell⟩ := own_txt hkl HO.out hlp
              obtain ⟨rfl, rfl⟩ : av = some ⟨jb, 0, none⟩ ∧ jc = ac := by cases e; exact ⟨rfl, rfl⟩
              have hta : M.kidT s j = s.kids.map M.Sh.txt := by unfold M.kidT; rw [List.take_of_length_le (by rw [HL.out]; exact Nat.le_refl _)]
              obtain ⟨T, hT⟩ : ∃ T, M.kidT s j = T := ⟨_, rfl⟩
              rw [← hta] at HR
              rw [hT] at hcell hkl HR
              have hxs : (T.map bs).length = j := by rw [List.length_map, hkl]
              have hmap : (T.map bs).map (fun x => x.data.toList) = T := by rw [List.map_map]; exact (List.map_congr_left fun x _ => bl_bs x).trans (List.map_id _)
              have hlen := HTX.out
              rw [HR.out, List.length_append, List.length_append, List.length_append, bl_len] at hlen
              simp only [List.length_cons, List.length_nil] at hlen
              have hjl : (Lib.join T [44, 32]).length ≤ 20000 := by omega
              have hcall := fun W (hc : ∀ (q : Nat) (x : ByteArray), (T.map bs)[q]? = some x → W.cell? ⟨jb, 0 + q, none⟩ = some (.string x)) (hb : jb < W.heap.size) => Try.strings_Join jb 0 jc (T.map bs) ⟨#[44, 32]⟩ W hc hb (by rw [hxs]; omega) (by rw [hxs]; exact hjc) (by rw [hmap]; exact Nat.le_trans hjl (by omega))
              rw [hxs, hmap] at hcall
              have hJ := show bl (bs (Lib.join T [44, 32])) = Lib.join T [44, 32] from bl_bs _
              obtain ⟨J, hJe⟩ : ∃ J, bs (Lib.join T [44, 32]) = J := ⟨_, rfl⟩
              have hcall2 : ∀ W, (∀ (q : Nat) (x : ByteArray), (T.map bs)[q]? = some x → W.cell? ⟨jb, 0 + q, none⟩ = some (.string x)) → jb < W.heap.size → Calls Try.prog 32 #[.slice (some ⟨jb, 0, none⟩) j jc, .string ⟨#[44, 32]⟩] W fun e w' => e = .returned (.string J) ∧ Below W.heap.size W w' := fun W h1 h2 => by rw [← hJe]; exact hcall W h1 h2
              rw [hJe] at hJ
              have hJs : J.size ≤ 20000 := by rw [← bl_len, hJ]; exact hjl
              have HCJ := Lib.hid hcall2
              have HCELL := Lib.hid hcell
              have HTXX := Lib.hid (show bl ((((wd : ByteArray) ++ ⟨#[40]⟩) ++ J) ++ ⟨#[41]⟩) = s.txt from by
                rw [bl_cat, bl_cat, bl_cat, hJ, HR.out])
              have z1 : ¬ 9223372036854775807 < wd.size + 1 := by omega
              have z2 : ¬ 9223372036854775807 < wd.size + 1 + J.size := by omega
              have z3 : ¬ 9223372036854775807 < wd.size + 1 + J.size + 1 := by omega
              have hBt := below2 hbw hBr
              clear hcall hcall2 hjl hmap hxs hJ hJe hcell hlen hkl hT hta e
              go_wp2_with fail
              refine (HCJ.out _ HCELL.out hjb).mono ?_
              rintro e w5 ⟨rfl, hB5⟩
              have hB6 := below2 hBt hB5
              go_wp2_with fail
              go_ret
              exact ⟨ret_bs HTXX.out, hB6⟩
end Go.Proofs.Ytnhnjfoboepffaa
