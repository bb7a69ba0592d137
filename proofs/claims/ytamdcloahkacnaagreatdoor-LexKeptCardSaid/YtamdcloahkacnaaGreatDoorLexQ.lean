/- DERIVED. Contracts of layer 1: where a byte stands; the iterator over comments. -/
import Derived.Test.YtamdcloahkacnaaGreatDoorLexO
import Derived.RangeFuncNested
import Derived.RangeFuncBound
import Derived.RangeFuncCalls
import Derived.RangeFuncLeaves
import Derived.Shelf.Abstract
import Derived.Shelf.RegionOpen
import Derived.OwnWalkIn
import Derived.TacticsInMore
import Derived.LoopNIn
import Derived.LoopIn
namespace Go.Proofs.YtamdcloahkacnaaGreatDoor
open Go.RowKit Go.WideMaps Go.Maps Go.Shelf

namespace M
/-- The first place of a byte from another place on, or the end of the text. -/
def find (s : List UInt8) (k : Nat) (c : UInt8) : Nat := k + leadI (fun _ x => !(x == c)) 0 (s.drop k)
theorem find_ge (s : List UInt8) (k : Nat) (c : UInt8) : k ≤ find s k c := by unfold find; omega
theorem find_le (s : List UInt8) (k : Nat) (c : UInt8) (h : k ≤ s.length) : find s k c ≤ s.length := by
  unfold find
  have := leadI_le (fun _ x => !(x == c)) (s.drop k) 0
  rw [List.length_drop] at this; omega
theorem find_at (s : List UInt8) (k : Nat) (c : UInt8) (h : find s k c < s.length) : s[find s k c] = c := by
  have e : leadI (fun _ x => !(x == c)) 0 (s.drop k) = 0 + (find s k c - k) := by unfold find; omega
  have h2 := leadI_at (fun _ x => !(x == c)) (s.drop k) 0 (find s k c - k) (by rw [List.length_drop]; have := find_ge s k c; omega) e
  have h3 := find_ge s k c
  simp only [List.getElem_drop, Bool.not_eq_eq_eq_not, Bool.not_false, beq_iff_eq] at h2
  have e2 : k + (find s k c - k) = find s k c := by omega
  simp only [e2] at h2
  exact h2
theorem find_gt (s : List UInt8) (k : Nat) (c : UInt8) (hk : k < s.length) (h : s[k] ≠ c) : k < find s k c := by
  unfold find
  rw [List.drop_eq_getElem_cons hk]
  unfold leadI
  rw [if_pos (by simp [h])]
  have := leadI_ge (fun _ x => !(x == c)) (s.drop (k + 1)) (0 + 1)
  omega
theorem idx_lead (l : List UInt8) (c : UInt8) : ∀ i, (Lib.indexByte l c = -1 ∧ leadI (fun _ x => !(x == c)) i l = i + l.length) ∨ (0 ≤ Lib.indexByte l c ∧ (leadI (fun _ x => !(x == c)) i l : Int) = i + Lib.indexByte l c) := by
  induction l with
  | nil => intro i; left; exact ⟨rfl, rfl⟩
  | cons b l ih =>
    intro i
    unfold Lib.indexByte leadI
    cases h : b == c
    · rcases ih (i + 1) with ⟨h1, h2⟩ | ⟨h1, h2⟩
      · left; simp only [Bool.not_false, if_true, h1, h2]; simp; omega
      · right
        have : ¬ (Lib.indexByte l c == -1) = true := by simp; omega
        simp only [Bool.not_false, if_true, h2, this]
        simp; omega
    · right; simp
theorem find_none (s : List UInt8) (k : Nat) (c : UInt8) (hk : k ≤ s.length) (h : Lib.indexByte (s.drop k) c < 0) : find s k c = s.length := by
  unfold find
  rcases idx_lead (s.drop k) c 0 with ⟨_, h2⟩ | ⟨h1, _⟩
  · rw [h2, List.length_drop]; omega
  · omega
theorem find_some (s : List UInt8) (k : Nat) (c : UInt8) (h : ¬ Lib.indexByte (s.drop k) c < 0) : (find s k c : Int) = k + Lib.indexByte (s.drop k) c := by
  unfold find
  rcases idx_lead (s.drop k) c 0 with ⟨h1, _⟩ | ⟨_, h2⟩
  · omega
  · omega
/-- The comments of a text, from a place on. -/
def commentsF : Nat → List UInt8 → Nat → List (Nat × Nat)
  | 0, _, _ => []
  | f + 1, s, k => if k < s.length then (k, find s k 10) :: commentsF f s (find s (find s k 10) 37) else []
def comments (s : List UInt8) : List (Nat × Nat) := commentsF (s.length + 1) s (find s 0 37)
end M

set_option maxHeartbeats 1000000 in
set_option maxRecDepth 100000 in
theorem find_any (s : ByteArray) (k : Nat) (c : UInt8) (w : World) (hs : s.size ≤ maxLen) (hk : k ≤ s.size) :
    Calls Tryz.prog 66 #[.string s, .int .i64 k, .int .u8 c.toNat] w fun e w' => e = .returned (.int .i64 (M.find s.data.toList k c)) ∧ w = w' := by
  have hsub : (s.extract k s.size).data.toList = s.data.toList.drop k := by rw [sub_list, List.take_of_length_le (by rw [M.size_list]; exact Nat.le_refl _)]
  have hcc : ((c.toNat : Nat) : Int).toNat.toUInt8 = c := by simp
  have hcall := Tryz.strings_IndexByte (s.extract k s.size) (c.toNat : Int) w
  rw [hcc, hsub] at hcall
  have HC := Lib.hid hcall
  clear hcall hsub hcc
  unfold maxLen at hs
  have hle := M.find_le s.data.toList k c (by rw [M.size_list]; exact hk)
  rw [M.size_list] at hle
  by_cases hn : Lib.indexByte (s.data.toList.drop k) c < 0
  · have hf := M.find_none _ k c (by rw [M.size_list]; exact hk) hn
    rw [M.size_list] at hf
    have HF := Lib.hid hf
    clear hf hle
    go_enter Tryz.func66, Tryz.ntmps66
    go_wp2_with fail
    refine HC.out.mono ?_
    rintro e w1 ⟨rfl, rfl⟩
    go_wp2_with fail
    go_ret
    exact ⟨ret_int (by rw [HF.out]), rfl⟩
  · have hf := M.find_some _ k c hn
    have hb : (k : Int) + Lib.indexByte (s.data.toList.drop k) c ≤ s.size := by rw [← hf]; exact_mod_cast hle
    have HF := Lib.hid hf
    clear hf hle
    go_enter Tryz.func66, Tryz.ntmps66
    go_wp2_with fail
    refine HC.out.mono ?_
    rintro e w1 ⟨rfl, rfl⟩
    go_wp2_with fail
    go_ret
    exact ⟨ret_int (by rw [HF.out]), rfl⟩

theorem enters_comments1 : ∀ args w, (callFunc 65 args).run Tryz.prog w = .ok (.enter 65 args) w := enters_of Tryz.func65 (by kernel_rfl) rfl

/-- What a round must keep for the iterator: the block that holds the text. -/
def KeepB (b : Nat) (A B : World) : Prop := A.heap.size ≤ B.heap.size ∧ B.heap[b]? = A.heap[b]?
abbrev stV (x : Nat × Nat) : Value := .agg #[.int .i64 x.1, .int .i64 x.2]
/-- Stretches of a text of n bytes. -/
abbrev Stx (n : Nat) := { x : Nat × Nat // x.1 ≤ x.2 ∧ x.2 ≤ n }

attribute [local go_sem] Oper.semAt_some

set_option maxHeartbeats 2000000 in
set_option maxRecDepth 100000 in
theorem comments_stops (n b : Nat) (s : ByteArray) (w : World) (hn : 1 ≤ n) (hs : s.size ≤ 1000000) (hb : b < w.heap.size) (hc : w.cell? ⟨b, 0, none⟩ = some (.string s)) :
    SeqStopsK Fence.wide n Tryz.prog 65 #[.pointer (some ⟨b, 0, none⟩)] (fun x : Stx s.size => #[stV x.1]) (KeepB b) (fun xs => xs.map (·.1) = M.comments s.data.toList) (fun pre => pre.map (·.1) <+: M.comments s.data.toList) (M.comments s.data.toList).length w := fun l J Jx W hW hJ hJx hY h0 => by
  have hsm : s.size ≤ maxLen := by unfold maxLen; omega
  have hcW : W.cell? ⟨b, 0, none⟩ = some (.string s) := by rw [hW.cell hb]; exact hc
  refine callsIn_of_wp Tryz.func65 rfl trivial ?_ rfl
  simp only [Tryz.ntmps65, List.size_toArray, List.length_cons, List.length_nil, Nat.reduceAdd, Nat.reduceSub, Array.replicate_succ, Array.replicate_zero, List.push_toArray, List.append_toArray, List.nil_append, List.cons_append]
  gi_wp2_with fail
  refine ⟨trivial, callsIn_wide.2 ((find_any s 0 37 W hsm (by omega)).mono ?_)⟩
  rintro e w1 ⟨rfl, rfl⟩
  obtain ⟨k0, hk0⟩ : ∃ k, M.find s.data.toList 0 37 = k := ⟨_, rfl⟩
  have hk0le : k0 ≤ s.size := by rw [← hk0, ← M.size_list]; exact M.find_le _ _ _ (by omega)
  have hcm : M.commentsF (s.size + 1) s.data.toList k0 = M.comments s.data.toList := by unfold M.comments; rw [hk0, M.size_list]
  have hat : ∀ h : k0 < s.data.toList.length, s.data.toList[k0] = 37 := by subst hk0; exact fun h => M.find_at _ _ _ h
  have HAT := Lib.hid hat
  rw [hk0]
  have HCM := Lib.hid hcm
  have HJ0 := Lib.hid h0
  have HY := Lib.hid hY
  clear hk0 hcm h0 hY hat
  gi_wp2_with fail
  gi_loopw [3, 4] (fun i _ wr => ∃ (k f : Nat) (pre : List (Stx s.size)), i = .int .i64 k ∧ k ≤ s.size ∧ s.size < k + f ∧ Hid (pre.map (·.1) ++ M.commentsF f s.data.toList k = M.comments s.data.toList) ∧ Hid (J pre wr) ∧ Hid (∀ h : k < s.data.toList.length, s.data.toList[k] = 37) ∧ wr.cell? ⟨b, 0, none⟩ = some (.string s)) (fun i _ _ => s.size - (intOf i).toNat)
  case atStart => exact ⟨k0, s.size + 1, [], rfl, hk0le, by omega, HCM, HJ0, HAT, hcW⟩
  case round =>
    rename_i wr
    obtain ⟨k, f, pre, rfl, hk, hf, HF, HJ, HP, hcr⟩ := hrel
    by_cases hlt : k < s.size
    · obtain ⟨f, rfl⟩ : ∃ g, f = g + 1 := ⟨f - 1, by omega⟩
      have hst : M.commentsF (f + 1) s.data.toList k = (k, M.find s.data.toList k 10) :: M.commentsF f s.data.toList (M.find s.data.toList (M.find s.data.toList k 10) 37) := by
        rw [M.commentsF, if_pos (by rw [M.size_list]; exact hlt)]
      obtain ⟨t, ht⟩ : ∃ t, M.find s.data.toList k 10 = t := ⟨_, rfl⟩
      have ht1 : t ≤ s.size := by rw [← ht, ← M.size_list]; exact M.find_le _ _ _ (by rw [M.size_list]; exact hk)
      have ht2 : k ≤ t := by rw [← ht]; exact M.find_ge _ _ _
      obtain ⟨k', hk'⟩ : ∃ q, M.find s.data.toList t 37 = q := ⟨_, rfl⟩
      have hq1 : k' ≤ s.size := by rw [← hk', ← M.size_list]; exact M.find_le _ _ _ (by rw [M.size_list]; exact ht1)
      have hq2 : t ≤ k' := by rw [← hk']; exact M.find_ge _ _ _
      have hcom := HF.out
      rw [hst, ht, hk'] at hcom
      have hlen : pre.length < (M.comments s.data.toList).length := by rw [← hcom]; simp only [List.length_append, List.length_map, List.length_cons]; omega
      have hadv0 : k < t := by
        rw [← ht]
        have h37 := HP.out (by rw [M.size_list]; exact hlt)
        exact M.find_gt _ _ _ (by rw [M.size_list]; exact hlt) (by rw [h37]; decide)
      have hadv : k < k' := by omega
      have hat' : ∀ h : k' < s.data.toList.length, s.data.toList[k'] = 37 := by subst hk'; exact fun h => M.find_at _ _ _ h
      have HAT' := Lib.hid hat'
      clear hat'
      have HCOM := Lib.hid hcom
      have HT := Lib.hid ht
      have HK := Lib.hid hk'
      clear hst ht hk' hcom
      obtain ⟨fn, tmps, assign, body, hy, hR⟩ := HY.out pre ⟨(k, t), ht2, ht1⟩ wr HJ.out hlen
      gi_wp2_with fail
      refine ⟨trivial, callsIn_wide.2 ((find_any s k 10 wr hsm hk).mono ?_)⟩
      rintro e w1 ⟨rfl, rfl⟩
      rw [HT.out]
      gi_wp2_with fail
      refine hR.mono ?_
      rintro e W' (⟨rfl, hJ', hkp⟩ | ⟨rfl, hJx'⟩)
      · have hc' : W'.cell? ⟨b, 0, none⟩ = some (.string s) := by rw [World.cell?_of_block (w := wr) hkp.2]; exact hcr
        have HJ' := Lib.hid hJ'
        clear hJ'
        gi_wp2_with fail
        refine ⟨trivial, callsIn_wide.2 ((find_any s t 37 W' hsm ht1).mono ?_)⟩
        rintro e w1 ⟨rfl, rfl⟩
        rw [HK.out]
        gi_wp2_with fail
        exact ⟨⟨k', f, pre ++ [⟨(k, t), ht2, ht1⟩], rfl, hq1, by omega, Lib.hid (by rw [List.map_append, List.append_assoc]; exact HCOM.out), HJ', HAT', hc'⟩, by simp [intOf]; omega⟩
      · have HJX := Lib.hid hJx'
        clear hJx'
        gi_wp2_with fail
        refine bodyPost_ret (results_none rfl _ _ _) rfl ?_
        exact ⟨⟨_, rfl⟩, .inr ⟨pre ++ [⟨(k, t), ht2, ht1⟩], ⟨M.commentsF f s.data.toList k', by rw [List.map_append, List.append_assoc]; exact HCOM.out⟩, HJX.out⟩⟩
    · have hcom : pre.map (·.1) = M.comments s.data.toList := by
        rw [← HF.out]
        cases f with
        | zero => simp [M.commentsF]
        | succ f => rw [M.commentsF, if_neg (by rw [M.size_list]; exact hlt), List.append_nil]
      have HCOM := Lib.hid hcom
      clear hcom
      gi_wp2_with fail
      go_end0
      exact ⟨⟨_, rfl⟩, .inl ⟨pre, HCOM.out, HJ.out⟩⟩


set_option maxHeartbeats 1000000 in
set_option maxRecDepth 100000 in
theorem comments_any (s : ByteArray) (w : World) :
    Calls Tryz.prog 48 #[.string s] w fun e w' => e = .returned (.func (.func 65) #[] #[.pointer (some ⟨w.heap.size, 0, none⟩)]) ∧ w' = w.alloc (.cells #[.string s] 9) := by
  go_enter Tryz.func48, Tryz.ntmps48
  go_wp2
  go_ret
  exact ⟨rfl, rfl⟩

end Go.Proofs.YtamdcloahkacnaaGreatDoor
