/- Texts of one's own, joined: OrdZ. -/
import Derived.Test.YtnhnjfoboepffaaGr15
import Derived.RangeFuncNested
import Derived.RangeFuncBound
import Derived.RangeFuncCalls
import Derived.RangeFuncLeaves
import Derived.Shelf.Abstract
import Derived.Shelf.RegionOpen
import Derived.OwnWalkIn
import Derived.TacticsInMore
import Derived.LoopNIn
import Derived.LoopIn
namespace Go.Proofs.Ytnhnjfoboepffaa
open Go.RowKit Go.Shelf

namespace M
def rowTo (a q : Nat) : List (Nat × Nat) := ((List.range q).filter fun b => decide (a < b)).map fun b => (a, b)
def prsTo (n k : Nat) : List (Nat × Nat) := (List.range k).flatMap fun a => rowTo a n
theorem prsTo_all (n : Nat) : prsTo n n = prs n := rfl
theorem prsTo_next (n k : Nat) : prsTo n (k + 1) = prsTo n k ++ rowTo k n := by unfold prsTo; rw [List.range_succ, List.flatMap_append]; simp
theorem rowTo_next {a q : Nat} (h : a < q) : rowTo a (q + 1) = rowTo a q ++ [(a, q)] := by unfold rowTo; rw [List.range_succ, List.filter_append, List.map_append]; simp [h]
theorem rowTo_first (a : Nat) : rowTo a (a + 1) = [] := by
  unfold rowTo
  rw [List.map_eq_nil_iff, List.filter_eq_nil_iff]
  intro x hx
  have := List.mem_range.1 hx
  simp; omega
theorem rowTo_pre {a q n : Nat} (h : q ≤ n) : rowTo a q <+: rowTo a n := by
  induction n with
  | zero => obtain rfl : q = 0 := by omega
            exact List.prefix_refl _
  | succ n ih =>
    rcases Nat.lt_or_eq_of_le h with h | rfl
    · refine (ih (by omega)).trans ?_
      unfold rowTo
      rw [List.range_succ, List.filter_append, List.map_append]
      exact List.prefix_append _ _
    · exact List.prefix_refl _
theorem prsTo_pre {n k m : Nat} (h : k ≤ m) : prsTo n k <+: prsTo n m := by
  induction m with
  | zero => obtain rfl : k = 0 := by omega
            exact List.prefix_refl _
  | succ m ih =>
    rcases Nat.lt_or_eq_of_le h with h | rfl
    · exact (ih (by omega)).trans (by rw [prsTo_next]; exact List.prefix_append _ _)
    · exact List.prefix_refl _
theorem prs_at {n k q : Nat} (hk : k < n) (hkq : k < q) (hq : q < n) : prsTo n k ++ rowTo k q ++ [(k, q)] <+: prs n := by
  rw [List.append_assoc, ← rowTo_next hkq, ← prsTo_all]
  refine List.IsPrefix.trans ?_ (prsTo_pre (show k + 1 ≤ n by omega))
  rw [prsTo_next]
  obtain ⟨r, e⟩ := rowTo_pre (a := k) (show q + 1 ≤ n by omega)
  exact ⟨r, by rw [List.append_assoc, e]⟩
end M
/-- What a round must keep for the iterator: the block that holds the table. -/
def KeepB (b : Nat) (A B : World) : Prop := A.heap.size ≤ B.heap.size ∧ B.heap[b]? = A.heap[b]?
/-- Pairs of elements. -/
abbrev Prs (n : Nat) := { x : Nat × Nat // x.1 < x.2 ∧ x.2 < n }
abbrev prE {n : Nat} (x : Prs n) : Array Value := #[.int .i64 x.1.1, .int .i64 x.1.2]

theorem enters_pairs1 : ∀ args w, (callFunc 90 args).run Try.prog w = .ok (.enter 90 args) w := enters_of Try.func90 (by kernel_rfl) rfl

attribute [local go_sem] Oper.semAt_some

set_option maxHeartbeats 4000000 in
set_option maxRecDepth 100000 in
theorem pairs_stops (nn b : Nat) (t : M.Tb) (p : Tp) (r : Nat → Nat) (w : World) (hn : 1 ≤ nn) (h12 : t.elems.length ≤ 12) (hb : b < w.heap.size) (hk : KnBox w b t p r) :
    SeqStopsK Fence.wide nn Try.prog 90 #[.pointer (some ⟨b, 0, none⟩)] (fun x : Prs t.elems.length => prE x) (KeepB b) (fun xs => xs.map (·.1) = M.prs t.elems.length) (fun pre => pre.map (·.1) <+: M.prs t.elems.length) (M.prs t.elems.length).length w := fun l J Jx W hW hJ hJx hY h0 => by
  have hc0 := (hW.cell (p := ⟨b, 1, none⟩) hb).trans hk.c1
  have HJ0 := Lib.hid h0
  have HY := Lib.hid hY
  clear h0 hY hk
  refine callsIn_of_wp Try.func90 rfl trivial ?_ rfl
  simp only [Try.ntmps90, List.size_toArray, List.length_cons, List.length_nil, Nat.reduceAdd, Nat.reduceSub, Array.replicate_succ, Array.replicate_zero, List.push_toArray, List.append_toArray, List.nil_append, List.cons_append]
  gi_wp2_with fail
  gi_loopw [9] (fun i wr => ∃ (k : Nat) (pre : List (Prs t.elems.length)), i = .int .i64 k ∧ k ≤ t.elems.length ∧ Hid (pre.map (·.1) = M.prsTo t.elems.length k) ∧ Hid (J pre wr) ∧ wr.cell? ⟨b, 1, none⟩ = some (.slice p.ea t.elems.length p.ec)) (fun i _ => t.elems.length - (intOf i).toNat)
  case atStart => exact ⟨0, [], rfl, Nat.zero_le _, Lib.hid rfl, HJ0, hc0⟩
  case round =>
    clear hc0
    rename_i wr
    obtain ⟨k, pre, rfl, hk, HP, HJ, hc⟩ := hrel
    by_cases hkl : k < t.elems.length
    · have n1 : (k : Int) < (t.elems.length : Int) := by omega
      gi_wp2_with fail
      gi_loopw [4] (fun i wo => ∃ (q : Nat) (pre : List (Prs t.elems.length)), i = .int .i64 q ∧ k < q ∧ q ≤ t.elems.length ∧ Hid (pre.map (·.1) = M.prsTo t.elems.length k ++ M.rowTo k q) ∧ Hid (J pre wo) ∧ wo.cell? ⟨b, 1, none⟩ = some (.slice p.ea t.elems.length p.ec)) (fun i _ => t.elems.length - (intOf i).toNat)
      case atStart => exact ⟨k + 1, pre, by simp, by omega, by omega, Lib.hid (by rw [M.rowTo_first, List.append_nil]; exact HP.out), HJ, hc⟩
      case round =>
        clear hc HP HJ
        rename World => wo
        obtain ⟨q, pre, rfl, hkq, hq, HP, HJ, hc⟩ := hrel
        by_cases hql : q < t.elems.length
        · have m1 : (q : Int) < (t.elems.length : Int) := by omega
          have hpre := M.prs_at hkl hkq hql
          have hmap : (pre ++ [(⟨(k, q), hkq, hql⟩ : Prs t.elems.length)]).map (·.1) = M.prsTo t.elems.length k ++ M.rowTo k q ++ [(k, q)] := by rw [List.map_append, HP.out]; rfl
          have hlen : pre.length < (M.prs t.elems.length).length := by
            have h1 := hpre.length_le
            have h2 := congrArg List.length HP.out
            rw [List.length_map] at h2
            rw [List.length_append, ← h2] at h1
            simp at h1; omega
          have HPRE := Lib.hid hpre
          have HMAP := Lib.hid hmap
          clear hpre hmap
          obtain ⟨fn, tmps, assign, body, hy, hR⟩ := HY.out pre ⟨(k, q), hkq, hql⟩ wo HJ.out hlen
          gi_wp2_with fail
          refine hR.mono ?_
          rintro e W' (⟨rfl, hJ', hkp⟩ | ⟨rfl, hJx'⟩)
          · have hc' := (World.cell?_of_block (a := ⟨b, 1, none⟩) hkp.2).trans hc
            have HJ' := Lib.hid hJ'
            clear hJ' hc
            gi_wp2_with fail
            exact ⟨⟨q + 1, pre ++ [⟨(k, q), hkq, hql⟩], by simp, by omega, by omega, Lib.hid (by rw [HMAP.out, M.rowTo_next hkq, List.append_assoc]), HJ', hc'⟩, by simp [intOf]; omega⟩
          · have HJX := Lib.hid hJx'
            clear hJx'
            gi_wp2_with fail
            refine bodyPost_ret (results_none rfl _ _ _) rfl ?_
            exact ⟨⟨_, rfl⟩, .inr ⟨pre ++ [⟨(k, q), hkq, hql⟩], by rw [HMAP.out]; exact HPRE.out, HJX.out⟩⟩
        · obtain rfl : q = t.elems.length := by omega
          have m1 : decide ((t.elems.length : Int) < (t.elems.length : Int)) = false := decide_eq_false (by omega)
          gi_wp2_with fail
          exact ⟨⟨k + 1, pre, by simp, by omega, Lib.hid (by rw [M.prsTo_next]; exact HP.out), HJ, hc⟩, by simp [intOf]; omega⟩
    · obtain rfl : k = t.elems.length := by omega
      have m1 : decide ((t.elems.length : Int) < (t.elems.length : Int)) = false := decide_eq_false (by omega)
      gi_wp2_with fail
      go_end0
      exact ⟨⟨_, rfl⟩, .inl ⟨pre, HP.out, HJ.out⟩⟩

set_option maxHeartbeats 1000000 in
set_option maxRecDepth 100000 in
theorem pairs_any (t : M.Tb) (p : Tp) (r : Nat → Nat) (w : World) :
    Calls Try.prog 66 #[knV t p r] w fun e w' => e = .returned (.func (.func 90) #[] #[.pointer (some ⟨w.heap.size, 0, none⟩)]) ∧ w' = w.alloc (.cells (knA t p r) 62) := by
  go_enter Try.func66, Try.ntmps66
  go_wp2_with fail
  go_ret
  exact ⟨rfl, rfl⟩
end Go.Proofs.Ytnhnjfoboepffaa
