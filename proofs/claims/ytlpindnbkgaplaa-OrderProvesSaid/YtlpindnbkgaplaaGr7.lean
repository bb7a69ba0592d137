/- Texts of one's own, joined: OrdZ, OrdU, BasD, OrdV, OrdW. -/
import Derived.Test.YtlpindnbkgaplaaGr6
import Derived.RangeFuncNested
import Derived.RangeFuncBound
import Derived.RangeFuncCalls
import Derived.RangeFuncLeaves
import Derived.Shelf.Abstract
import Derived.Shelf.RegionOpen
import Derived.OwnWalkIn
import Derived.TacticsInMore
import Derived.LoopNIn
import Derived.LoopIn
import Derived.Test.YtlpindnbkgaplaaGr1
import Derived.Maps.AppendAt
namespace Go.Proofs.Ytlpindnbkgaplaa
open Go.RowKit Go.Shelf

namespace M
def rowTo (a q : Nat) : List (Nat × Nat) := ((List.range q).filter fun b => decide (a < b)).map fun b => (a, b)
def prsTo (n k : Nat) : List (Nat × Nat) := (List.range k).flatMap fun a => rowTo a n
theorem prsTo_all (n : Nat) : prsTo n n = prs n := rfl
theorem prsTo_next (n k : Nat) : prsTo n (k + 1) = prsTo n k ++ rowTo k n := by unfold prsTo; rw [List.range_succ, List.flatMap_append]; simp
theorem rowTo_next {a q : Nat} (h : a < q) : rowTo a (q + 1) = rowTo a q ++ [(a, q)] := by unfold rowTo; rw [List.range_succ, List.filter_append, List.map_append]; simp [h]
theorem rowTo_first (a : Nat) : rowTo a (a + 1) = [] := by
  unfold rowTo
  rw [List.map_eq_nil_iff, List.filter_eq_nil_iff]
  intro x hx
  have := List.mem_range.1 hx
  simp; omega
theorem rowTo_pre {a q n : Nat} (h : q ≤ n) : rowTo a q <+: rowTo a n := by
  induction n with
  | zero => obtain rfl : q = 0 := by omega
            exact List.prefix_refl _
  | succ n ih =>
    rcases Nat.lt_or_eq_of_le h with h | rfl
    · refine (ih (by omega)).trans ?_
      unfold rowTo
      rw [List.range_succ, List.filter_append, List.map_append]
      exact List.prefix_append _ _
    · exact List.prefix_refl _
theorem prsTo_pre {n k m : Nat} (h : k ≤ m) : prsTo n k <+: prsTo n m := by
  induction m with
  | zero => obtain rfl : k = 0 := by omega
            exact List.prefix_refl _
  | succ m ih =>
    rcases Nat.lt_or_eq_of_le h with h | rfl
    · exact (ih (by omega)).trans (by rw [prsTo_next]; exact List.prefix_append _ _)
    · exact List.prefix_refl _
theorem prs_at {n k q : Nat} (hk : k < n) (hkq : k < q) (hq : q < n) : prsTo n k ++ rowTo k q ++ [(k, q)] <+: prs n := by
  rw [List.append_assoc, ← rowTo_next hkq, ← prsTo_all]
  refine List.IsPrefix.trans ?_ (prsTo_pre (show k + 1 ≤ n by omega))
  rw [prsTo_next]
  obtain ⟨r, e⟩ := rowTo_pre (a := k) (show q + 1 ≤ n by omega)
  exact ⟨r, by rw [List.append_assoc, e]⟩
end M
/-- What a round must keep for the iterator: the block that holds the table. -/
def KeepB (b : Nat) (A B : World) : Prop := A.heap.size ≤ B.heap.size ∧ B.heap[b]? = A.heap[b]?
/-- Pairs of elements. -/
abbrev Prs (n : Nat) := { x : Nat × Nat // x.1 < x.2 ∧ x.2 < n }
abbrev prE {n : Nat} (x : Prs n) : Array Value := #[.int .i64 x.1.1, .int .i64 x.1.2]

theorem enters_pairs1 : ∀ args w, (callFunc 99 args).run Try.prog w = .ok (.enter 99 args) w := enters_of Try.func99 (by kernel_rfl) rfl

attribute [local go_sem] Oper.semAt_some

set_option maxHeartbeats 4000000 in
set_option maxRecDepth 100000 in
theorem pairs_stops (nn b : Nat) (t : M.Tb) (p : Tp) (r : Nat → Nat) (w : World) (hn : 1 ≤ nn) (h12 : t.elems.length ≤ 12) (hb : b < w.heap.size) (hk : KnBox w b t p r) :
    SeqStopsK Fence.wide nn Try.prog 99 #[.pointer (some ⟨b, 0, none⟩)] (fun x : Prs t.elems.length => prE x) (KeepB b) (fun xs => xs.map (·.1) = M.prs t.elems.length) (fun pre => pre.map (·.1) <+: M.prs t.elems.length) (M.prs t.elems.length).length w := fun l J Jx W hW hJ hJx hY h0 => by
  have hc0 := (hW.cell (p := ⟨b, 1, none⟩) hb).trans hk.c1
  have HJ0 := Lib.hid h0
  have HY := Lib.hid hY
  clear h0 hY hk
  refine callsIn_of_wp Try.func99 rfl trivial ?_ rfl
  simp only [Try.ntmps99, List.size_toArray, List.length_cons, List.length_nil, Nat.reduceAdd, Nat.reduceSub, Array.replicate_succ, Array.replicate_zero, List.push_toArray, List.append_toArray, List.nil_append, List.cons_append]
  gi_wp2_with fail
  gi_loopw [9] (fun i wr => ∃ (k : Nat) (pre : List (Prs t.elems.length)), i = .int .i64 k ∧ k ≤ t.elems.length ∧ Hid (pre.map (·.1) = M.prsTo t.elems.length k) ∧ Hid (J pre wr) ∧ wr.cell? ⟨b, 1, none⟩ = some (.slice p.ea t.elems.length p.ec)) (fun i _ => t.elems.length - (intOf i).toNat)
  case atStart => exact ⟨0, [], rfl, Nat.zero_le _, Lib.hid rfl, HJ0, hc0⟩
  case round =>
    clear hc0
    rename_i wr
    obtain ⟨k, pre, rfl, hk, HP, HJ, hc⟩ := hrel
    by_cases hkl : k < t.elems.length
    · have n1 : (k : Int) < (t.elems.length : Int) := by omega
      gi_wp2_with fail
      gi_loopw [4] (fun i wo => ∃ (q : Nat) (pre : List (Prs t.elems.length)), i = .int .i64 q ∧ k < q ∧ q ≤ t.elems.length ∧ Hid (pre.map (·.1) = M.prsTo t.elems.length k ++ M.rowTo k q) ∧ Hid (J pre wo) ∧ wo.cell? ⟨b, 1, none⟩ = some (.slice p.ea t.elems.length p.ec)) (fun i _ => t.elems.length - (intOf i).toNat)
      case atStart => exact ⟨k + 1, pre, by simp, by omega, by omega, Lib.hid (by rw [M.rowTo_first, List.append_nil]; exact HP.out), HJ, hc⟩
      case round =>
        clear hc HP HJ
        rename World => wo
        obtain ⟨q, pre, rfl, hkq, hq, HP, HJ, hc⟩ := hrel
        by_cases hql : q < t.elems.length
        · have m1 : (q : Int) < (t.elems.length : Int) := by omega
          have hpre := M.prs_at hkl hkq hql
          have hmap : (pre ++ [(⟨(k, q), hkq, hql⟩ : Prs t.elems.length)]).map (·.1) = M.prsTo t.elems.length k ++ M.rowTo k q ++ [(k, q)] := by rw [List.map_append, HP.out]; rfl
          have hlen : pre.length < (M.prs t.elems.length).length := by
            have h1 := hpre.length_le
            have h2 := congrArg List.length HP.out
            rw [List.length_map] at h2
            rw [List.length_append, ← h2] at h1
            simp at h1; omega
          have HPRE := Lib.hid hpre
          have HMAP := Lib.hid hmap
          clear hpre hmap
          obtain ⟨fn, tmps, assign, body, hy, hR⟩ := HY.out pre ⟨(k, q), hkq, hql⟩ wo HJ.out hlen
          gi_wp2_with fail
          refine hR.mono ?_
          rintro e W' (⟨rfl, hJ', hkp⟩ | ⟨rfl, hJx'⟩)
          · have hc' := (World.cell?_of_block (a := ⟨b, 1, none⟩) hkp.2).trans hc
            have HJ' := Lib.hid hJ'
            clear hJ' hc
            gi_wp2_with fail
            exact ⟨⟨q + 1, pre ++ [⟨(k, q), hkq, hql⟩], by simp, by omega, by omega, Lib.hid (by rw [HMAP.out, M.rowTo_next hkq, List.append_assoc]), HJ', hc'⟩, by simp [intOf]; omega⟩
          · have HJX := Lib.hid hJx'
            clear hJx'
            gi_wp2_with fail
            refine bodyPost_ret (results_none rfl _ _ _) rfl ?_
            exact ⟨⟨_, rfl⟩, .inr ⟨pre ++ [⟨(k, q), hkq, hql⟩], by rw [HMAP.out]; exact HPRE.out, HJX.out⟩⟩
        · obtain rfl : q = t.elems.length := by omega
          have m1 : decide ((t.elems.length : Int) < (t.elems.length : Int)) = false := decide_eq_false (by omega)
          gi_wp2_with fail
          exact ⟨⟨k + 1, pre, by simp, by omega, Lib.hid (by rw [M.prsTo_next]; exact HP.out), HJ, hc⟩, by simp [intOf]; omega⟩
    · obtain rfl : k = t.elems.length := by omega
      have m1 : decide ((t.elems.length : Int) < (t.elems.length : Int)) = false := decide_eq_false (by omega)
      gi_wp2_with fail
      go_end0
      exact ⟨⟨_, rfl⟩, .inl ⟨pre, HP.out, HJ.out⟩⟩

set_option maxHeartbeats 1000000 in
set_option maxRecDepth 100000 in
theorem pairs_any (t : M.Tb) (p : Tp) (r : Nat → Nat) (w : World) :
    Calls Try.prog 68 #[knV t p r] w fun e w' => e = .returned (.func (.func 99) #[] #[.pointer (some ⟨w.heap.size, 0, none⟩)]) ∧ w' = w.alloc (.cells (knA t p r) 64) := by
  go_enter Try.func68, Try.ntmps68
  go_wp2_with fail
  go_ret
  exact ⟨rfl, rfl⟩
end Go.Proofs.Ytlpindnbkgaplaa

namespace Go.Proofs.Ytlpindnbkgaplaa
open Go.RowKit

/-- How many marks are not set. -/
def uns (w : World) (B n : Nat) : Nat := M.unseen (fun i => isT (w.cell? ⟨B, i, none⟩)) n
theorem uns_flB {w : World} {B n : Nat} {f : Nat → Bool} (h : FlB w B n f) : uns w B n = M.unseen f n := by
  unfold uns M.unseen
  congr 1
  exact List.filter_congr fun i hi => by show (!isT (w.cell? ⟨B, i, none⟩)) = _; rw [(h i (List.mem_range.1 hi)).1]; rfl
/-- What is held between two elements whose steps are gone through. -/
structure StA (t : M.Tb) (a : Nat) (w : World) (B : Nat) (v : Value) (wr : World) (S : Nat → Bool) (T : List Nat) : Prop where
  bfs : M.Bfs t a S T
  fl : FlB wr B t.elems.length S
  few : 2 * M.unseen S t.elems.length + T.length ≤ 2 * t.elems.length + 1
  que : ∃ b off cap, v = .slice (some ⟨b, off, none⟩) T.length cap ∧ QueAt wr (B + 1) b off cap (nats T)
  big : B < wr.heap.size
structure StB (t : M.Tb) (a x : Nat) (B : Nat) (v : Value) (wr : World) (S : Nat → Bool) (T : List Nat) (k m : Nat) : Prop where
  bfs : M.BfsIn t a S T x k
  fl : FlB wr B t.elems.length S
  few : 2 * M.unseen S t.elems.length + T.length + 1 ≤ m
  que : ∃ b off cap, v = .slice (some ⟨b, off, none⟩) T.length cap ∧ QueAt wr (B + 1) b off cap (nats T)
  big : B < wr.heap.size

set_option maxHeartbeats 8000000 in
set_option maxRecDepth 100000 in
theorem steps_any (t : M.Tb) (p : Tp) (a b : Nat) (w : World) (ht : TbIn w t p) (hf : M.form t) (ha : a < t.elems.length) (hb : b < t.elems.length) :
    Calls Try.prog 52 #[tbV t p, .int .i64 a, .int .i64 b] w fun e w' => e = .returned (.bool (M.stB t a b)) ∧ Below w.heap.size w w' := by
  obtain ⟨pea, pec, paa, pac, pwa, pwc⟩ := p
  obtain ⟨i0, hi, hz0, hz1, hz2⟩ := info_parts intInfo
  have HI0 := Lib.hid hi
  have HZ0 := Lib.hid hz0
  have HZ1 := Lib.hid hz1
  have HZ2 := Lib.hid hz2
  clear hi hz0 hz1 hz2
  have h12 := hf.twelve
  have hmk := make_bools t.elems.length (by omega)
  have hnn : t.above.length = t.elems.length := hf.above
  have HNN := Lib.hid hnn
  have HT := Lib.hid ht
  have HF := Lib.hid hf
  obtain ⟨c0, c1, c2, c3⟩ := tbBox (t := t) (p := ⟨pea, pec, paa, pac, pwa, pwc⟩) (box_new w (tbA t ⟨pea, pec, paa, pac, pwa, pwc⟩) 26)
  clear c0 c3 ht hf hnn
  go_enter Try.func52, Try.ntmps52
  go_wp2_with fail
  have hB0 : Below w.heap.size w (((w.alloc (.cells (tbA t ⟨pea, pec, paa, pac, pwa, pwc⟩) 26)).alloc (.cells (blsA t.elems.length) 4)).alloc (.cells #[.int .i64 a] 3)) := belowA (belowA (below1 _ _) _) _
  have hF0 := (flB_new (w.alloc (.cells (tbA t ⟨pea, pec, paa, pac, pwa, pwc⟩) 26)) t.elems.length).below _ (by simp) (below1 _ (.cells #[.int .i64 a] 3))
  rw [World.size_alloc] at hF0
  have hS0 : StA t a w (w.heap.size + 1) (.slice (some ⟨w.heap.size + 1 + 1, 0, none⟩) 1 1) (((w.alloc (.cells (tbA t ⟨pea, pec, paa, pac, pwa, pwc⟩) 26)).alloc (.cells (blsA t.elems.length) 4)).alloc (.cells #[.int .i64 a] 3)) (fun _ => false) [a] := by
    refine ⟨M.Bfs.start t a, hF0, ?_, ⟨_, _, _, rfl, Nat.le_refl _, (by simp), fun i hi => ?_, fun i hi => ?_⟩, by simp⟩
    · have := M.unseen_le (fun _ => false) t.elems.length
      simp only [List.length_singleton]; omega
    · have : i = 0 := by simpa using hi
      subst this
      rw [World.cell?_alloc_at _ _ _ _ (by simp)]; rfl
    · have : i = 0 := by omega
      subst this
      refine ⟨by rw [World.cell?_alloc_at _ _ _ _ (by simp)]; rfl, ?_⟩
      have h := box_new ((w.alloc (.cells (tbA t ⟨pea, pec, paa, pac, pwa, pwc⟩) 26)).alloc (.cells (blsA t.elems.length) 4)) #[.int .i64 a] 3
      rw [World.size_alloc, World.size_alloc] at h
      exact Lib.frozen_of_heap h 0
  have hc2 : (((w.alloc (.cells (tbA t ⟨pea, pec, paa, pac, pwa, pwc⟩) 26)).alloc (.cells (blsA t.elems.length) 4)).alloc (.cells #[.int .i64 a] 3)).cell? ⟨w.heap.size, 2, none⟩ = some (.slice paa t.above.length pac) := by
    rw [cell_below c2 (belowA (below1 _ _) _)]
  have HS0 := Lib.hid hS0
  have HB0 := Lib.hid hB0
  have HC2 := Lib.hid hc2
  clear hF0 hS0 hB0 hc2 c1 c2 hmk
  generalize hW0 : ((w.alloc (.cells (tbA t ⟨pea, pec, paa, pac, pwa, pwc⟩) 26)).alloc (.cells (blsA t.elems.length) 4)).alloc (.cells #[.int .i64 a] 3) = W0 at *
  clear hW0
  go_loopw [8] (fun v wr => ∃ S T, Hid (StA t a w (w.heap.size + 1) v wr S T) ∧ Below (w.heap.size + 1) W0 wr) (fun v wr => 2 * uns wr (w.heap.size + 1) t.elems.length + lenV v)
  case atStart => exact ⟨_, _, HS0, Below.refl _ _⟩
  case round =>
    rename_i wr
    obtain ⟨S, T, HS, hB⟩ := hrel
    obtain ⟨qb, qo, qc, rfl, hq⟩ := HS.out.que
    have hBw : Below w.heap.size w wr := HB0.out.trans (hB.mono (by omega))
    have d2 := (hB.cell (p := ⟨w.heap.size, 2, none⟩) (by show w.heap.size < w.heap.size + 1; omega)).trans HC2.out
    cases T with
    | nil =>
      have hfin := M.Bfs.fin HS.out.bfs b
      have hres : S b = M.stB t a b := by rw [Bool.eq_iff_iff, hfin, M.stB_iff HF.out ha]
      have hcb := (HS.out.fl b hb).1
      rw [hres] at hcb
      have n1 : (b : Int) < (t.elems.length : Int) := by omega
      have n2 : (0 : Int) ≤ (b : Int) := by omega
      clear hfin hres hq d2
      go_wp2_with fail
      go_ret
      exact ⟨rfl, hBw⟩
    | cons x T =>
      have hxn : x < t.elems.length := by
        rcases HS.out.bfs.todo x List.mem_cons_self with rfl | h
        · exact ha
        · exact (HS.out.bfs.sound x h).lt HF.out ha
      have hxa : x < t.above.length := by rw [HNN.out]; exact hxn
      have hq0 := hq.at_ 0 (by simp)
      have hle := hq.le
      have hfew := HS.out.few
      rw [List.length_cons] at hfew
      have HU := Lib.hid (uns_flB HS.out.fl)
      have HBI := Lib.hid HS.out.bfs.pop
      have HFL := Lib.hid HS.out.fl
      have hbig := HS.out.big
      obtain ⟨ab, ao, ea, hat⟩ := HT.out.as_.at hxa
      dsimp only at ea
      obtain ⟨ra, rc, q2, _, _, hrow⟩ := hat.at_ x hxa
      replace q2 := cell_below q2 hBw
      have HROW := Lib.hid hrow
      have hgd : t.above.getD x [] = t.above[x] := getD_in _ _ _ hxa
      obtain ⟨row, hr⟩ : ∃ row, t.above[x] = row := ⟨_, rfl⟩
      rw [hr] at q2 HROW hgd
      have HGD := Lib.hid hgd
      rw [ea] at d2
      have e0 : (nats (x :: T))[0]'(by simp) = (x : Int) := rfl
      rw [e0, Nat.add_zero] at hq0
      rw [nats_len] at hle
      have hrl : row.length ≤ 12 := by
        have h := HF.out.rows x hxa
        rw [hr] at h
        have hall : ∀ j, (hj : j < row.length) → (j : Int) ≤ row[j] := fun j => by
          induction j with
          | zero => intro hj; exact (h 0 hj).1
          | succ j ih =>
            intro hj
            have h1 := ih (by omega)
            have h2 := (h (j + 1) hj).2.2 (by omega)
            have h3 : row[j] < row[j + 1] := h2
            omega
        rcases Nat.lt_or_ge 12 row.length with q | q
        · have h1 := hall 12 q
          have h2 := (h 12 q).2.1
          omega
        · exact q
      have hcases : (qc = 1 ∧ QueAt wr (w.heap.size + 1 + 1) qb qo 0 (nats T)) ∨ (¬ qc = 1 ∧ QueAt wr (w.heap.size + 1 + 1) qb (qo + 1) (qc - 1) (nats T)) := by
        by_cases h1 : qc = 1
        · left
          have : T = [] := by
            rw [List.length_cons] at hle
            exact List.length_eq_zero_iff.1 (by omega)
          subst this
          exact ⟨h1, hq.base_, Nat.le_refl _, fun i hi => by simp at hi, fun i hi => by omega⟩
        · exact Or.inr ⟨h1, hq.pop⟩
      have m2 : (x : Int) < (t.above.length : Int) := by omega
      have m3 : (0 : Int) ≤ (x : Int) := by omega
      have m4 : T.length + 1 ≤ qc := by simpa using hle
      obtain ⟨m, hm⟩ : ∃ m, (x :: T).length = m := ⟨_, rfl⟩
      have hmT : m = T.length + 1 := by rw [← hm, List.length_cons]
      have m5 : (0 : Int) < (m : Int) := by omega
      have m6 : (1 : Int) ≤ (m : Int) := by omega
      have d0 : decide (0 < m) = true := decide_eq_true (by omega)
      have d1 : decide ((0 : Int) < (m : Int)) = true := decide_eq_true m5
      have m7 : (m : Int) ≤ (qc : Int) := by omega
      have HMT := Lib.hid hmT
      rw [hm]
      clear hm hmT
      clear e0 hq hat hrow hgd hr hle ea
      rcases hcases with ⟨rfl, hpop⟩ | ⟨hq1, hpop⟩
      all_goals
        have HPOP := Lib.hid hpop
        clear hpop
        go_wp2_with fail
        go_quiet (fail)
        go_wp2_with fail
        go_loopw [8, 10] (fun v i wo => ∃ S' T' k, i = .int .i64 (k : Nat) ∧ k ≤ row.length ∧ Hid (StB t a x (w.heap.size + 1) v wo S' T' k (2 * M.unseen S t.elems.length + (T.length + 1))) ∧ Below (w.heap.size + 1) W0 wo) (fun _ i _ => row.length - (intOf i).toNat)
        case atStart =>
          exact ⟨S, T, 0, rfl, Nat.zero_le _, Lib.hid ⟨HBI.out, HFL.out.below (w.heap.size + 1 + 1) (by omega) (belowN (Below.refl _ _) _), by omega, ⟨qb, _, _, (by have := HMT.out; congr 1; omega), HPOP.out.below (belowN (Below.refl _ _) _)⟩, hbig⟩, belowN hB _⟩
        case round =>
          clear hq0 q2 HPOP d2
          rename World => wo
          obtain ⟨S', T', k, rfl, hk, HS2, hBo⟩ := hrel
          obtain ⟨rb, ro, rcc, rfl, hqr⟩ := HS2.out.que
          have hBow : Below w.heap.size w wo := HB0.out.trans (hBo.mono (by omega))
          by_cases hkl : k < row.length
          · obtain ⟨lb, lo, elb, hlat⟩ := HROW.out.at hkl
            have r0 := cell_below (hlat.at_ k hkl) hBow
            have hlb := hlat.lt
            subst elb
            have hmem : row[k] ∈ t.above.getD x [] := by rw [HGD.out]; exact List.getElem_mem _
            obtain ⟨y, hy, hup, hyn⟩ := M.row_nat HF.out hxn hmem
            rw [hy] at r0
            have f0 := HS2.out.fl y hyn
            have n1 : (k : Int) < (row.length : Int) := by omega
            have n2 : (0 : Int) ≤ (k : Int) := by omega
            have n3 : (y : Int) < (t.elems.length : Int) := by omega
            have n4 : (0 : Int) ≤ (y : Int) := by omega
            have hgl : (t.above.getD x []).length = row.length := by rw [HGD.out]
            have hgk : ∀ h : k < (t.above.getD x []).length, (t.above.getD x [])[k] = (y : Int) := by rw [HGD.out]; exact fun _ => hy
            have HYK := Lib.hid hgk
            have HGL := Lib.hid hgl
            have hbg := HS2.out.big
            obtain ⟨f0, g0⟩ := f0
            clear hlat hmem hy hup hgk hgl
            cases hs : S' y with
            | true =>
              rw [hs] at f0
              have HB2 := Lib.hid (HS2.out.bfs.yes (by rw [HGL.out]; exact hkl) (by rw [HYK.out, Int.toNat_natCast]; exact hs))
              clear hs hqr
              go_wp2_with fail
              go_roundw
              case rel => exact ⟨S', T', k + 1, by go_num, hkl, Lib.hid ⟨HB2.out, HS2.out.fl, HS2.out.few, HS2.out.que, HS2.out.big⟩, hBo⟩
              case measure => simp [intOf]; omega
            | false =>
              rw [hs] at f0
              have HB2 := Lib.hid (HS2.out.bfs.push (by rw [HGL.out]; exact hkl) (HYK.out _))
              have r1 : (wo.setCell ⟨w.heap.size + 1, y, none⟩ (.bool true)).cell? ⟨lb, lo + k, none⟩ = some (.int .i64 y) := by
                rw [World.cell?_setCell_other _ _ _ _ (by intro q; have := congrArg Addr.block q; simp at this; omega)]; exact r0
              have HUP := Lib.hid (M.unseen_push S' t.elems.length y hyn hs)
              have hfew2 := HS2.out.few
              have HQ := Lib.hid ((hqr.other (p := ⟨w.heap.size + 1, y, none⟩) (by show w.heap.size + 1 < w.heap.size + 1 + 1; omega) (.bool true)).below (below1 _ (.cells #[.int .i64 y] 3)))
              have HF2 := Lib.hid ((HS2.out.fl.set y true).below _ (by simp [World.setCell]; omega) (below1 _ (.cells #[.int .i64 y] 3)))
              have hB2 : Below (w.heap.size + 1) W0 ((wo.setCell ⟨w.heap.size + 1, y, none⟩ (.bool true)).alloc (.cells #[.int .i64 y] 3)) := (hBo.setCell (p := ⟨w.heap.size + 1, y, none⟩) (Nat.le_refl _) _).alloc (by simp [World.setCell]; omega) _
              have hfl : T'.length + 1 ≤ 1000000 := by omega
              have hi := HI0.out
              have hz0 := HZ0.out
              have hz1 := HZ1.out
              have hz2 := HZ2.out
              clear hs hqr
              go_wp2_with (at_builtin; refine wpList_append_que _ rfl _ _ 39 rfl 3 i0 Try.underlying39 hi hz0 hz1 hz2 (w.heap.size + 1 + 1) rb ro rcc (nats T') (congrArg (fun n => Value.slice (some ⟨rb, ro, none⟩) n rcc) (nats_len T').symm) HQ.out ?c1 ⟨wo.heap.size, 0, none⟩ 1 (y : Int) rfl ?c2 ?c3 ?_)
              case c1 => simp [World.setCell]; omega
              case c2 =>
                show World.cell? _ ⟨wo.heap.size, 0, none⟩ = _
                rw [World.cell?_alloc_at _ _ _ _ (by simp [World.setCell])]; rfl
              case c3 => rw [nats_len]; exact hfl
              intro b' off' cap' w' hq' hbl
              have HQ' := Lib.hid hq'
              have HBL := Lib.hid hbl
              clear hq' hbl hi hz0 hz1 hz2
              go_wp2_with fail
              go_roundw
              case rel =>
                refine ⟨_, T' ++ [y], k + 1, by go_num, hkl, Lib.hid ⟨HB2.out, HF2.out.below _ (by omega) HBL.out, ?_, ⟨b', off', cap', ?_, ?_⟩, ?_⟩, ?_⟩
                · have := HUP.out
                  rw [List.length_append, List.length_singleton]; omega
                · rw [List.length_append, List.length_singleton]
                · have h := HQ'.out
                  rwa [show nats T' ++ [(y : Int)] = nats (T' ++ [y]) from by simp] at h
                · have := HBL.out.size; simp [World.setCell] at this; omega
                · exact hB2.trans (HBL.out.mono (by omega))
              case measure => simp [intOf]; omega
          · obtain rfl : k = row.length := by omega
            have n1 : decide ((row.length : Int) < (row.length : Int)) = false := decide_eq_false (by omega)
            have hgl : (t.above.getD x []).length = row.length := by rw [HGD.out]
            have hbf := HS2.out.bfs
            rw [← hgl] at hbf
            have HBF := Lib.hid hbf.fin
            have hfew2 := HS2.out.few
            have HUO := Lib.hid (uns_flB HS2.out.fl)
            clear hgl hbf hqr
            go_wp2_with fail
            go_roundw
            case rel => exact ⟨S', T', Lib.hid ⟨HBF.out, HS2.out.fl, by omega, ⟨rb, ro, rcc, rfl, by obtain ⟨b', o', c', e, h⟩ := HS2.out.que; cases e; exact h⟩, HS2.out.big⟩, hBo⟩
            case measure =>
              rw [HUO.out, HU.out]
              have := HMT.out
              simp [lenV]; omega
end Go.Proofs.Ytlpindnbkgaplaa

namespace Go.Proofs.Ytlpindnbkgaplaa
open Go.RowKit

/-- Lists as they lie in memory, each one a slice of its own. -/
structure NstAt {α : Type} (f : α → Value) (w : World) (b off : Nat) (l : List (List α)) : Prop where
  lt : b < w.heap.size
  at_ : ∀ i, (h : i < l.length) → ∃ a c, w.cell? ⟨b, off + i, none⟩ = some (.slice a l[i].length c) ∧ (a = none → c = 0) ∧ l[i].length ≤ c ∧ CelSl f w a l[i]
theorem NstAt.below {α : Type} {f : α → Value} {w w' : World} {b off : Nat} {l : List (List α)} (h : NstAt f w b off l) (hB : Below w.heap.size w w') : NstAt f w' b off l :=
  ⟨Nat.lt_of_lt_of_le h.lt hB.size, fun i hi => by
    obtain ⟨a, c, h1, h2, h3, h4⟩ := h.at_ i hi
    exact ⟨a, c, cell_below h1 hB, h2, h3, h4.below hB⟩⟩
theorem NstAt.row {w : World} {b off : Nat} {l : List (List Int)} (h : NstAt (Value.int .i64) w b off l) : RowAt w b off l := ⟨h.lt, h.at_⟩
/-- A list of lists of the call's own. -/
def NestOwn {α : Type} (f : α → Value) (w : World) (base : Nat) (e : TypeId) (v : Value) (rows : List (List α)) : Prop :=
  ∃ vals, w.ownsRow base e 1 v rows.length vals ∧ ∀ i, (h : i < rows.length) → ∃ a c, vals[i]? = some (.slice a rows[i].length c) ∧ (a = none → c = 0) ∧ rows[i].length ≤ c ∧ (rows[i] = [] ∨ ∃ b off, a = some ⟨b, off, none⟩ ∧ some b ≠ v.ownBlock ∧ CelAt f w b off rows[i])
theorem NestOwn.nil {α : Type} (f : α → Value) (w : World) (base : Nat) (e : TypeId) : NestOwn f w base e (.slice none 0 0) [] := ⟨[], ⟨rfl, Or.inl ⟨rfl, rfl⟩⟩, fun i hi => by simp at hi⟩
theorem NestOwn.below {α : Type} {f : α → Value} {w w' : World} {base : Nat} {e : TypeId} {v : Value} {rows : List (List α)} (h : NestOwn f w base e v rows) (hB : Below w.heap.size w w') : NestOwn f w' base e v rows := by
  obtain ⟨vals, h1, h2⟩ := h
  refine ⟨vals, own_below h1 hB, fun i hi => ?_⟩
  obtain ⟨a, c, q1, q2, q3, q4⟩ := h2 i hi
  refine ⟨a, c, q1, q2, q3, ?_⟩
  rcases q4 with q | ⟨b, off, r1, r2, r3⟩
  · exact Or.inl q
  · exact Or.inr ⟨b, off, r1, r2, r3.below hB⟩
theorem NestOwn.slice {α : Type} {f : α → Value} {w : World} {base : Nat} {e : TypeId} {v : Value} {rows : List (List α)} (h : NestOwn f w base e v rows) : ∃ a c, v = .slice a rows.length c := by
  obtain ⟨vals, h1, _⟩ := h
  exact own_slice h1
/-- As it lies in memory. -/
theorem NestOwn.lies {α : Type} {f : α → Value} {w : World} {base : Nat} {e : TypeId} {v : Value} {rows : List (List α)} (h : NestOwn f w base e v rows) :
    (v = .slice none 0 0 ∧ rows = []) ∨ ∃ g c, v = .slice (some ⟨g, 0, none⟩) rows.length c ∧ rows.length ≤ c ∧ base ≤ g ∧ NstAt f w g 0 rows := by
  obtain ⟨vals, h1, h2⟩ := h
  rcases h1.2 with ⟨rfl, h0⟩ | ⟨g, cap, cur, rfl, hb, hg, hn, hm, hs, ht⟩
  · exact Or.inl ⟨rfl, List.length_eq_zero_iff.1 h0⟩
  · refine Or.inr ⟨g, cap, rfl, hn, hb, ?_, fun i hi => ?_⟩
    · rcases Nat.lt_or_ge g w.heap.size with h' | h'
      · exact h'
      · simp [Array.getElem?_eq_none h'] at hg
    · obtain ⟨a, c, q1, q2, q3, q4⟩ := h2 i hi
      refine ⟨a, c, ?_, q2, q3, ?_⟩
      · simp only [World.cell?, hg, Nat.zero_add]
        rw [← ht, List.getElem?_take, if_pos (by omega)] at q1
        simpa using q1
      · rcases q4 with q | ⟨b, off, r1, _, r3⟩
        · exact Or.inl q
        · exact Or.inr ⟨b, off, r1, r3⟩

theorem wpList_append_nest {α : Type} {f : α → Value} {P : Program} (w : World) {ops : Array Oper} {rest : List Oper} {o : Oper} {a : Act} {Q : Exit → Act → World → Prop}
    (hg : o.guard = none) (s x : Operand) (t : TypeId) (hop : o.op = Op.call { callee := Callee.builtin Builtin.append, args := #[s, x], argTypes := #[t, t] })
    (e : TypeId) (i : TypeInfo) (h1 : P.underlying t = some (.slice e)) (h2 : P.info? e = some i) (h3 : i.zero = some (.slice none 0 0)) (h4 : i.size = 1) (h5 : i.bytes = 24)
    (base : Nat) (v : Value) (rows : List (List α)) (hs : a.eval s = v) (hq : NestOwn f w base e v rows) (hbase : base ≤ w.heap.size)
    (ad : Addr) (c : Nat) (ra : Option Addr) (l : List α) (rc : Nat) (hx : a.eval x = .slice (some ad) 1 c) (hc : w.cell? (ad.add 0) = some (.slice ra l.length rc)) (hl : rows.length + 1 ≤ 1000000)
    (hr1 : ra = none → rc = 0) (hr2 : l.length ≤ rc) (hr3 : l = [] ∨ ∃ b off, ra = some ⟨b, off, none⟩ ∧ some b ≠ v.ownBlock ∧ CelAt f w b off l)
    (hK : ∀ g c' w', NestOwn f w' base e (.slice (some ⟨g, 0, none⟩) (rows.length + 1) c') (rows ++ [l]) → Below base w w' → wpList P ops Q rest (a.put o.dst (.slice (some ⟨g, 0, none⟩) (rows.length + 1) c')) w') : wpList P ops Q (o :: rest) a w := by
  obtain ⟨vals, hown, hrows⟩ := hq
  refine wpList_append_own_at w hg s x t hop base e i (.slice none 0 0) 1 24 h1 h2 h3 h4 h5 rfl (by decide) v rows.length vals hs hown ad 1 c [.slice ra l.length rc] hx rfl ?_ ?_ (by unfold maxLen; omega) (by omega) hbase ?_
  · intro j u hj
    match j, hj with
    | 0, hj => simp at hj; subst hj; exact hc
  · intro u hu; simp at hu; subst hu; rfl
  · intro v' w' hown' hgr _ hblk
    have hvl := hown.1
    rw [Nat.mul_one] at hvl
    rcases hown'.2 with ⟨_, h0⟩ | ⟨g, cap, cur, rfl, hbg, hg', hn, hm, hsz, ht⟩
    · omega
    refine hK g cap w' ⟨vals ++ [.slice ra l.length rc], ?_, fun i hi => ?_⟩ ?_
    · rw [List.length_append, List.length_singleton]; exact hown'
    · have hkeep : ∀ b off l', some b ≠ v.ownBlock → CelAt f w b off l' → (some b ≠ (Value.slice (some ⟨g, 0, none⟩) (rows.length + 1) cap).ownBlock ∧ CelAt f w' b off l') := by
        intro b off l' hne hat
        have hlt := hat.lt
        have hb : w'.heap[b]? = w.heap[b]? := hgr.block b hlt hne
        refine ⟨?_, Nat.lt_of_lt_of_le hlt hgr.size, fun j hj => ?_⟩
        · rcases hblk with q | q
          · rw [q]; exact hne
          · rw [q]; intro e; cases e; omega
        · rw [World.cell?_of_block (w := w) hb]; exact hat.at_ j hj
      by_cases hil : i < rows.length
      · obtain ⟨a', c2, q1, q2, q3, q4⟩ := hrows i hil
        refine ⟨a', c2, ?_, q2, ?_, ?_⟩
        · rw [List.getElem?_append_left (by omega), List.getElem_append_left hil]; exact q1
        · rw [List.getElem_append_left hil]; exact q3
        · rw [List.getElem_append_left hil]
          rcases q4 with q | ⟨b, off, r1, r2, r3⟩
          · exact Or.inl q
          · obtain ⟨k1, k2⟩ := hkeep b off _ r2 r3
            exact Or.inr ⟨b, off, r1, k1, k2⟩
      · have hie : i = rows.length := by simp at hi; omega
        subst hie
        refine ⟨ra, rc, ?_, hr1, ?_, ?_⟩
        · rw [List.getElem?_append_right (by omega), hvl]; simp
        · simpa using hr2
        · rw [List.getElem_concat_length (by rfl)]
          rcases hr3 with q | ⟨b, off, r1, r2, r3⟩
          · exact Or.inl q
          · obtain ⟨k1, k2⟩ := hkeep b off _ r2 r3
            exact Or.inr ⟨b, off, r1, k1, k2⟩
    · refine (Below.refl base w).grown hgr hbase (fun k hk => ?_)
      rcases hown.2 with ⟨rfl, _⟩ | ⟨g0, _, _, rfl, hb0, _⟩
      · cases hk
      · cases hk; exact hb0
end Go.Proofs.Ytlpindnbkgaplaa

namespace Go.Proofs.Ytlpindnbkgaplaa
open Go.RowKit

set_option maxHeartbeats 2000000 in
set_option maxRecDepth 100000 in
theorem isBelow_any (t : M.Tb) (p : Tp) (a b : Nat) (w : World) (ht : TbIn w t p) (hf : M.form t) (ha : a < t.elems.length) (hb : b < t.elems.length) :
    Calls Try.prog 46 #[tbV t p, .int .i64 a, .int .i64 b] w fun e w' => e = .returned (.bool (M.leB t a b)) ∧ Below w.heap.size w w' := by
  have HC := Lib.hid (steps_any t p a b (w.alloc (.cells (tbA t p) 26)) (ht.below (below1 _ _)) hf ha hb)
  have HL := Lib.hid (M.leB_or hf ha (b := b))
  obtain ⟨c0, c1, c2, c3⟩ := tbBox (t := t) (p := p) (box_new w (tbA t p) 26)
  clear ht
  by_cases hab : a = b
  · have k1 : ((a : Int) == (b : Int)) = true := by rw [hab]; exact beq_self_eq_true _
    have HR := Lib.hid (show M.leB t a b = true from by rw [HL.out, hab]; simp)
    clear hab
    go_enter Try.func46, Try.ntmps46
    go_wp2_with fail
    go_ret
    exact ⟨ret_bool HR.out.symm, below1 _ _⟩
  · have k1 : ((a : Int) == (b : Int)) = false := by rw [beq_eq_false_iff_ne]; omega
    have HR := Lib.hid (show M.leB t a b = M.stB t a b from by rw [HL.out, decide_eq_false hab]; rfl)
    clear hab
    go_enter Try.func46, Try.ntmps46
    go_wp2_with fail
    refine HC.out.mono ?_
    rintro e w1 ⟨rfl, hB1⟩
    have hB := below2 (below1 w (.cells (tbA t p) 26)) hB1
    go_wp2_with fail
    go_ret
    exact ⟨ret_bool HR.out.symm, hB⟩

set_option maxHeartbeats 1000000 in
set_option maxRecDepth 100000 in
theorem isElem_any (t : M.Tb) (p : Tp) (a : Int) (w : World) (hn : t.elems.length ≤ 1000000) :
    Calls Try.prog 44 #[tbV t p, .int .i64 a] w fun e w' => e = .returned (.bool (M.inB t.elems.length a)) ∧ Below w.heap.size w w' := by
  obtain ⟨c0, c1, c2, c3⟩ := tbBox (t := t) (p := p) (box_new w (tbA t p) 26)
  have w1' : IntKind.i64.wrap ((t.elems.length : Int) - 1) = (t.elems.length : Int) - 1 := IntWalk.i64_in _ (by omega)
  have HC := Lib.hid fun W => in_any a 0 ((t.elems.length : Int) - 1) W
  have hd : (decide ((0 : Int) ≤ a) && decide (a ≤ (t.elems.length : Int) - 1)) = M.inB t.elems.length a := by
    unfold M.inB
    rw [Bool.eq_iff_iff]
    simp only [Bool.and_eq_true, decide_eq_true_eq]
    omega
  have HD := Lib.hid hd
  clear hd
  go_enter Try.func44, Try.ntmps44
  go_wp2_with fail
  refine (HC.out _).mono ?_
  rintro e w1 ⟨rfl, rfl⟩
  rw [HD.out]
  go_wp2_with fail
  go_ret
  exact ⟨rfl, below1 _ _⟩

namespace M
def relRow (t : Tb) (a k : Nat) : List Bool := (List.range k).map (leB t a)
def relTo (t : Tb) (k : Nat) : List (List Bool) := (List.range k).map fun a => relRow t a t.elems.length
theorem relRow_len (t : Tb) (a k : Nat) : (relRow t a k).length = k := by simp [relRow]
theorem relTo_len (t : Tb) (k : Nat) : (relTo t k).length = k := by simp [relTo]
theorem relRow_next (t : Tb) (a k : Nat) : relRow t a (k + 1) = relRow t a k ++ [leB t a k] := by simp [relRow, List.range_succ]
theorem relTo_next (t : Tb) (k : Nat) : relTo t (k + 1) = relTo t k ++ [relRow t k t.elems.length] := by simp [relTo, List.range_succ]
end M
abbrev boolCells (l : List Bool) : List Value := l.map Value.bool
theorem boolsInfo : (Try.prog.info? 24).map (fun i => (i.zero, i.size, i.bytes)) = some (some (.slice none 0 0), 1, 24) := by kernel_rfl
/-- The relation of a table as it lies in memory. -/
structure RelAt (w : World) (t : M.Tb) (g : Nat) : Prop where
  lt : g < w.heap.size
  at_ : ∀ a, a < t.elems.length → ∃ b off c, w.cell? ⟨g, a, none⟩ = some (.slice (some ⟨b, off, none⟩) t.elems.length c) ∧ b < w.heap.size ∧ ∀ j, j < t.elems.length → w.cell? ⟨b, off + j, none⟩ = some (.bool (M.leB t a j))
theorem RelAt.below {w w' : World} {t : M.Tb} {g : Nat} (h : RelAt w t g) (hB : Below w.heap.size w w') : RelAt w' t g :=
  ⟨Nat.lt_of_lt_of_le h.lt hB.size, fun a ha => by
    obtain ⟨b, off, c, h1, h2, h3⟩ := h.at_ a ha
    exact ⟨b, off, c, cell_below h1 hB, Nat.lt_of_lt_of_le h2 hB.size, fun j hj => cell_below (h3 j hj) hB⟩⟩
/-- What Rel comes to. -/
def RelPost (t : M.Tb) (w : World) (e : Ending) (w' : World) : Prop := ∃ g c, e = .returned (.slice (some ⟨g, 0, none⟩) t.elems.length c) ∧ t.elems.length ≤ c ∧ RelAt w' t g ∧ Below w.heap.size w w'
/-- The lists of a relation while it is laid. -/
def RelOwn (w : World) (t : M.Tb) (base : Nat) (v : Value) (k : Nat) : Prop := NestOwn Value.bool w base 24 v (M.relTo t k)
theorem own_flags {w : World} {base : Nat} {v : Value} {n : Nat} {l : List Bool} (hl : l.length = n) (h : w.ownsRow base 4 1 v n (boolCells l)) (hn : 0 < n) : ∃ b c, v = .slice (some ⟨b, 0, none⟩) n c ∧ n ≤ c ∧ base ≤ b ∧ CelAt Value.bool w b 0 l := by
  subst hl
  rcases h.2 with ⟨rfl, h0⟩ | ⟨g, cap, cur, rfl, hb, hg, hn, hm, hs, ht⟩
  · omega
  · refine ⟨g, cap, rfl, hn, hb, ?_, fun i hi => ?_⟩
    · rcases Nat.lt_or_ge g w.heap.size with h' | h'
      · exact h'
      · simp [Array.getElem?_eq_none h'] at hg
    · have hc : (boolCells l)[i]? = some (.bool l[i]) := by simp [hi]
      simp only [World.cell?, hg, Nat.zero_add]
      rw [← ht, List.getElem?_take, if_pos (by omega)] at hc
      simpa using hc
theorem relOwn_lies {w : World} {t : M.Tb} {base : Nat} {v : Value} (h : RelOwn w t base v t.elems.length) (hn : 1 ≤ t.elems.length) : ∃ g c, v = .slice (some ⟨g, 0, none⟩) t.elems.length c ∧ t.elems.length ≤ c ∧ RelAt w t g := by
  rcases NestOwn.lies h with ⟨_, h0⟩ | ⟨g, c, rfl, hc, _, hat⟩
  · have := M.relTo_len t t.elems.length
    rw [h0] at this; simp at this; omega
  · rw [M.relTo_len] at hc ⊢
    refine ⟨g, c, rfl, hc, hat.lt, fun a ha => ?_⟩
    obtain ⟨ad, c2, q1, _, q3, q4⟩ := hat.at_ a (by rw [M.relTo_len]; exact ha)
    have e : (M.relTo t t.elems.length)[a]'(by rw [M.relTo_len]; exact ha) = M.relRow t a t.elems.length := by simp [M.relTo]
    rw [e] at q1 q3 q4
    rw [M.relRow_len, Nat.zero_add] at q1
    rcases q4 with q | ⟨b, off, rfl, q⟩
    · have := M.relRow_len t a t.elems.length
      rw [q] at this; simp at this; omega
    · refine ⟨b, off, c2, q1, q.lt, fun j hj => ?_⟩
      have h := q.at_ j (by rw [M.relRow_len]; exact hj)
      rw [h]; simp [M.relRow]

set_option maxHeartbeats 4000000 in
set_option maxRecDepth 100000 in
theorem rel_any (t : M.Tb) (p : Tp) (w : World) (ht : TbIn w t p) (hf : M.form t) : Calls Try.prog 70 #[tbV t p] w (RelPost t w) := by
  obtain ⟨i0, hi, hz0, hz1, hz2⟩ := info_parts boolInfo
  obtain ⟨i1, hi', hz0', hz1', hz2'⟩ := info_parts boolsInfo
  have HI0 := Lib.hid hi
  have HZ0 := Lib.hid hz0
  have HZ1 := Lib.hid hz1
  have HZ2 := Lib.hid hz2
  have HI1 := Lib.hid hi'
  have HY0 := Lib.hid hz0'
  have HY1 := Lib.hid hz1'
  have HY2 := Lib.hid hz2'
  clear hi hz0 hz1 hz2 hi' hz0' hz1' hz2'
  have h12 := hf.twelve
  have hone := hf.one
  have HF := Lib.hid hf
  have HT := Lib.hid ht
  have HX := Lib.hid (tbBox (t := t) (p := p) (box_new w (tbA t p) 26))
  obtain ⟨c0, c1, c2, c3⟩ := HX.out
  clear ht hf c0 c2 c3
  go_enter Try.func70, Try.ntmps70
  go_wp2_with fail
  clear c1
  go_loopw [3, 4] (fun v i wr => ∃ k : Nat, k ≤ t.elems.length ∧ i = .int .i64 k ∧ Hid (RelOwn wr t (w.heap.size + 1) v k) ∧ Below (w.heap.size + 1) (w.alloc (.cells (tbA t p) 26)) wr) (fun _ i _ => t.elems.length - (intOf i).toNat)
  case atStart => exact ⟨0, by omega, rfl, Lib.hid (NestOwn.nil _ _ _ _), Below.refl _ _⟩
  case round =>
    rename_i wr
    obtain ⟨k, hk, rfl, HO, hB⟩ := hrel
    have hBx : Below (w.alloc (.cells (tbA t p) 26)).heap.size (w.alloc (.cells (tbA t p) 26)) wr := by rw [World.size_alloc]; exact hB
    have x1 := cell_below HX.out.c1 hBx
    have hwr : w.heap.size + 1 ≤ wr.heap.size := by have := hB.size; simpa using this
    obtain ⟨va, vc, hv⟩ := NestOwn.slice HO.out
    rw [M.relTo_len] at hv
    subst hv
    by_cases hkl : k < t.elems.length
    · have n1 : (k : Int) < (t.elems.length : Int) := by omega
      have n2 : (0 : Int) ≤ (k : Int) := by omega
      go_wp2_with fail
      go_loopw [5, 6] (fun u j wo => ∃ q : Nat, q ≤ t.elems.length ∧ j = .int .i64 q ∧ Hid (wo.ownsRow wr.heap.size 4 1 u q (boolCells (M.relRow t k q))) ∧ Below wr.heap.size wr wo) (fun _ j _ => t.elems.length - (intOf j).toNat)
      case atStart => exact ⟨0, by omega, rfl, Lib.hid ⟨rfl, Or.inl ⟨rfl, rfl⟩⟩, Below.refl _ _⟩
      case round =>
        clear x1
        rename World => wo
        obtain ⟨q, hq, rfl, HU, hBo⟩ := hrel
        obtain ⟨ua, uc, hu⟩ := own_slice HU.out
        subst hu
        have hBt := below2 hBx hBo
        have HX2 := Lib.hid (HX.out.below hBt)
        obtain ⟨y0, y1, y2, y3⟩ := HX2.out
        have hwo := hBo.size
        by_cases hql : q < t.elems.length
        · have m1 : (q : Int) < (t.elems.length : Int) := by omega
          have HC := Lib.hid (isBelow_any t p k q wo (HT.out.below (below2 (below1 _ _) hBt)) HF.out hkl hql)
          have HN := Lib.hid (M.relRow_next t k q)
          go_wp2_with fail
          refine HC.out.mono ?_
          rintro e w1 ⟨rfl, hB1⟩
          have hw1 := hB1.size
          have HU1 := Lib.hid (own_below HU.out hB1)
          have hBo1 := hBo.trans (hB1.mono hwo)
          have hi := HI0.out
          have hz0 := HZ0.out
          have hz1 := HZ1.out
          have hz2 := HZ2.out
          go_wp2_with (at_builtin; refine wpList_append_own _ rfl _ _ 24 rfl wr.heap.size 4 i0 (.bool false) 1 1 Try.underlying24 hi hz0 hz1 hz2 rfl (by decide) _ _ _ rfl (HU1.out.alloc _) ⟨w1.heap.size, 0, none⟩ 1 1 [.bool (M.leB t k q)] rfl rfl ?c1 ?c2 ?c3 ?c4 ?c5 ?_)
          case c1 =>
            intro j u hj
            match j, hj with
            | 0, hj => simp at hj; subst hj; simp [Addr.add]
          case c2 => intro u hu; simp at hu; subst hu; rfl
          case c3 => unfold maxLen; omega
          case c4 => omega
          case c5 => simp; omega
          intro v' w3 hown3 hgrow _
          have hB3 : Below wr.heap.size wr w3 := (hBo1.alloc (by omega) _).grown hgrow (by simp; omega) (fun j hj => (HU1.out.lt j hj).1)
          have R1 := Lib.hid hown3
          clear hown3 hgrow hi hz0 hz1 hz2
          obtain ⟨bv, bc, rfl⟩ := own_slice R1.out
          go_wp2_with fail
          go_roundw
          case rel =>
            refine ⟨q + 1, by omega, by go_num, Lib.hid ?_, hB3⟩
            have := R1.out
            rw [HN.out, show boolCells (M.relRow t k q ++ [M.leB t k q]) = boolCells (M.relRow t k q) ++ [.bool (M.leB t k q)] from by simp]
            exact this
          case measure => simp [intOf]; omega
        · obtain rfl : q = t.elems.length := by omega
          have m1 : decide ((t.elems.length : Int) < (t.elems.length : Int)) = false := decide_eq_false (by omega)
          obtain ⟨rb, rc, e, hrc, hrb, hcel⟩ := own_flags (M.relRow_len t k t.elems.length) HU.out (by omega)
          cases e
          have HCEL := Lib.hid (hcel.below (below1 wo (.cells #[.slice (some ⟨rb, 0, none⟩) t.elems.length uc] 24)))
          have HOW := Lib.hid (show RelOwn (wo.alloc (.cells #[.slice (some ⟨rb, 0, none⟩) t.elems.length uc] 24)) t (w.heap.size + 1) (.slice va k vc) k from NestOwn.below (NestOwn.below HO.out hBo) (below1 _ _))
          have hne : some rb ≠ (Value.slice va k vc).ownBlock := by
            intro e
            obtain ⟨vals, h1, _⟩ := HO.out
            have := (h1.lt rb e.symm).2
            omega
          have HNE := Lib.hid hne
          have HKL := Lib.hid (M.relTo_len t k)
          have HN := Lib.hid (M.relTo_next t k)
          have HLR := Lib.hid (M.relRow_len t k t.elems.length)
          have hi := HI1.out
          have hz0 := HY0.out
          have hz1 := HY1.out
          have hz2 := HY2.out
          have hBv : Below (w.heap.size + 1) (w.alloc (.cells (tbA t p) 26)) (wo.alloc (.cells #[.slice (some ⟨rb, 0, none⟩) t.elems.length uc] 24)) := (hB.trans (hBo.mono hwr)).alloc (by omega) _
          clear hne hcel
          go_wp2_with (at_builtin; refine wpList_append_nest (f := Value.bool) _ rfl _ _ 95 rfl 24 i1 Try.underlying95 hi hz0 hz1 hz2 (w.heap.size + 1) (.slice va k vc) (M.relTo t k) rfl HOW.out ?c1 ⟨wo.heap.size, 0, none⟩ 1 (some ⟨rb, 0, none⟩) (M.relRow t k t.elems.length) uc rfl ?c2 ?c3 ?c4 ?c5 ?c6 ?_)
          case c1 => simp; omega
          case c2 =>
            show World.cell? _ ⟨wo.heap.size, 0, none⟩ = _
            rw [World.cell?_alloc_at _ _ _ _ rfl, HLR.out]; rfl
          case c3 => rw [HKL.out]; omega
          case c4 => intro h; cases h
          case c5 => rw [HLR.out]; exact hrc
          case c6 => exact Or.inr ⟨rb, 0, rfl, HNE.out, HCEL.out⟩
          intro g' c' w3 hn3 hb3
          rw [HKL.out] at hn3 ⊢
          have HN3 := Lib.hid hn3
          have hBf := hBv.trans hb3
          clear hn3 hb3 hi hz0 hz1 hz2 hBv
          go_wp2_with fail
          go_roundw
          case rel =>
            refine ⟨k + 1, by omega, by go_num, Lib.hid ?_, hBf⟩
            unfold RelOwn
            rw [HN.out]
            exact HN3.out
          case measure => simp [intOf]; omega
    · obtain rfl : k = t.elems.length := by omega
      have m1 : decide ((t.elems.length : Int) < (t.elems.length : Int)) = false := decide_eq_false (by omega)
      have HR := Lib.hid (relOwn_lies HO.out hone)
      have hBf := below2 (below1 w (.cells (tbA t p) 26)) hBx
      go_wp2_with fail
      go_ret
      obtain ⟨g, c, e, h1, h2⟩ := HR.out
      exact ⟨g, c, congrArg Ending.returned e, h1, h2, hBf⟩
end Go.Proofs.Ytlpindnbkgaplaa

namespace Go.Proofs.Ytlpindnbkgaplaa
open Go.RowKit

namespace M
/-- The first ones of the elements above two. -/
def bndTo (t : Tb) (a b k : Nat) : List Nat := (List.range k).filter fun c => leB t a c && leB t b c
theorem bndTo_yes (t : Tb) (a b k : Nat) (h : (leB t a k && leB t b k) = true) : bndTo t a b (k + 1) = bndTo t a b k ++ [k] := by unfold bndTo; rw [List.range_succ, List.filter_append]; simp [h]
theorem bndTo_no (t : Tb) (a b k : Nat) (h : (leB t a k && leB t b k) = false) : bndTo t a b (k + 1) = bndTo t a b k := by unfold bndTo; rw [List.range_succ, List.filter_append]; simp [h]
theorem bndTo_len (t : Tb) (a b k : Nat) : (bndTo t a b k).length ≤ k := by
  unfold bndTo
  exact Nat.le_trans (List.length_filter_le _ _) (by rw [List.length_range]; exact Nat.le_refl _)
theorem bndTo_all (t : Tb) (a b : Nat) : bndTo t a b t.elems.length = bnd t a b := rfl
end M
def natCs (l : List Nat) : List Value := intCells (nats l)
theorem natCs_snoc (l : List Nat) (k : Nat) : natCs (l ++ [k]) = natCs l ++ [.int .i64 k] := by simp [natCs]

set_option maxHeartbeats 4000000 in
set_option maxRecDepth 100000 in
theorem bounds_any (t : M.Tb) (g c a b : Nat) (w : World) (hr : RelAt w t g) (hn : t.elems.length ≤ 12) (ha : a < t.elems.length) (hb : b < t.elems.length) :
    Calls Try.prog 71 #[.slice (some ⟨g, 0, none⟩) t.elems.length c, .int .i64 a, .int .i64 b] w (IntsPost (nats (M.bnd t a b)) w) := by
  obtain ⟨i0, hi, hz0, hz1, hz2⟩ := info_parts intInfo
  have HI0 := Lib.hid hi
  have HZ0 := Lib.hid hz0
  have HZ1 := Lib.hid hz1
  have HZ2 := Lib.hid hz2
  clear hi hz0 hz1 hz2
  have HR := Lib.hid hr
  obtain ⟨ab, ao, ac, p1, p2, p3⟩ := hr.at_ a ha
  obtain ⟨bb, bo, bc, q1, q2, q3⟩ := hr.at_ b hb
  have P3 := Lib.hid p3
  have Q3 := Lib.hid q3
  have n1 : (a : Int) < (t.elems.length : Int) := by omega
  have n2 : (0 : Int) ≤ (a : Int) := by omega
  have n3 : (b : Int) < (t.elems.length : Int) := by omega
  have n4 : (0 : Int) ≤ (b : Int) := by omega
  clear hr p3 q3
  have P1 := Lib.hid p1
  have Q1 := Lib.hid q1
  clear p1 q1
  go_enter Try.func71, Try.ntmps71
  go_wp2_with fail
  go_loopw [7, 8] (fun v i wr => ∃ k : Nat, k ≤ t.elems.length ∧ i = .int .i64 k ∧ Hid (wr.ownsRow w.heap.size 3 1 v (M.bndTo t a b k).length (natCs (M.bndTo t a b k))) ∧ Below w.heap.size w wr) (fun _ i _ => t.elems.length - (intOf i).toNat)
  case atStart => exact ⟨0, by omega, rfl, Lib.hid ⟨rfl, Or.inl ⟨rfl, rfl⟩⟩, Below.refl _ _⟩
  case round =>
    rename_i wr
    obtain ⟨k, hk, rfl, HO, hB⟩ := hrel
    obtain ⟨av, ac', rfl⟩ := own_slice HO.out
    by_cases hkl : k < t.elems.length
    · have m1 : (k : Int) < (t.elems.length : Int) := by omega
      have m2 : (0 : Int) ≤ (k : Int) := by omega
      have r1 := cell_below P1.out hB
      have r2 := cell_below (P3.out k hkl) hB
      have r3 := cell_below Q1.out hB
      have r4 := cell_below (Q3.out k hkl) hB
      have hle := M.bndTo_len t a b k
      have hz := hB.size
      cases hA : M.leB t a k with
      | false =>
        rw [hA] at r2
        have HN := Lib.hid (M.bndTo_no t a b k (by rw [hA]; rfl))
        clear hA
        go_wp2_with fail
        go_roundw
        case rel => exact ⟨k + 1, by omega, by go_num, Lib.hid (by rw [HN.out]; exact HO.out), hB⟩
        case measure => simp [intOf]; omega
      | true =>
        rw [hA] at r2
        cases hBb : M.leB t b k with
        | false =>
          rw [hBb] at r4
          have HN := Lib.hid (M.bndTo_no t a b k (by rw [hA, hBb]; rfl))
          clear hA hBb
          go_wp2_with fail
          go_roundw
          case rel => exact ⟨k + 1, by omega, by go_num, Lib.hid (by rw [HN.out]; exact HO.out), hB⟩
          case measure => simp [intOf]; omega
        | true =>
          rw [hBb] at r4
          have HN := Lib.hid (M.bndTo_yes t a b k (by rw [hA, hBb]; rfl))
          clear hA hBb
          have hi := HI0.out
          have hz0 := HZ0.out
          have hz1 := HZ1.out
          have hz2 := HZ2.out
          go_wp2_with (at_builtin; refine wpList_append_own _ rfl _ _ 39 rfl w.heap.size 3 i0 (.int .i64 0) 1 8 Try.underlying39 hi hz0 hz1 hz2 rfl (by decide) _ _ _ rfl (HO.out.alloc _) ⟨wr.heap.size, 0, none⟩ 1 1 [.int .i64 k] rfl rfl ?c1 ?c2 ?c3 ?c4 ?c5 ?_)
          case c1 =>
            intro j u hj
            match j, hj with
            | 0, hj => simp at hj; subst hj; simp [Addr.add]
          case c2 => intro u hu; simp at hu; subst hu; rfl
          case c3 => unfold maxLen; omega
          case c4 => omega
          case c5 => simp; omega
          intro v' w3 hown3 hgrow _
          have hB3 : Below w.heap.size w w3 := (hB.alloc hz _).grown hgrow (by simp; omega) (fun j hj => (HO.out.lt j hj).1)
          have R1 := Lib.hid hown3
          clear hown3 hgrow hi hz0 hz1 hz2
          obtain ⟨bv, bc', rfl⟩ := own_slice R1.out
          go_wp2_with fail
          go_roundw
          case rel =>
            refine ⟨k + 1, by omega, by go_num, Lib.hid ?_, hB3⟩
            rw [HN.out, List.length_append, natCs_snoc]
            exact R1.out
          case measure => simp [intOf]; omega
    · obtain rfl : k = t.elems.length := by omega
      have m1 : decide ((t.elems.length : Int) < (t.elems.length : Int)) = false := decide_eq_false (by omega)
      have ho := HO.out
      rw [M.bndTo_all, ← nats_len (M.bnd t a b)] at ho
      unfold natCs at ho
      obtain ⟨a', c', e, h1, h2, h3⟩ := own_int ho
      have e2 : Ending.returned (.slice av (M.bndTo t a b t.elems.length).length ac') = Ending.returned (.slice a' (nats (M.bnd t a b)).length c') := congrArg Ending.returned (by rw [← e, nats_len, M.bndTo_all])
      have HE := Lib.hid e2
      have HA := Lib.hid h3
      have H1 := Lib.hid h1
      have H2 := Lib.hid h2
      clear h1 h2 h3 ho e e2
      go_wp2_with fail
      go_ret
      exact ⟨_, _, HE.out, H1.out, H2.out, HA.out, hB⟩

namespace M
def optI : Option Nat → Int
  | some x => x
  | none => -1
theorem lst_stop {t : Tb} {L : List Nat} {k : Nat} (hk : k < L.length) (h : L.all (leB t L[k]) = true) (hb : ∀ j, (hj : j < L.length) → j < k → L.all (leB t L[j]) = false) : lst t L = some L[k] := by
  unfold lst
  rw [List.find?_eq_some_iff_getElem]
  exact ⟨h, k, hk, rfl, fun j hj => by
    have := hb j (by omega) hj
    show (!L.all (leB t L[j])) = true
    rw [this]; rfl⟩
theorem lst_all {t : Tb} {L : List Nat} (hb : ∀ j, (hj : j < L.length) → L.all (leB t L[j]) = false) : lst t L = none := by
  unfold lst
  rw [List.find?_eq_none]
  intro x hx
  obtain ⟨j, hj, rfl⟩ := List.getElem_of_mem hx
  have := hb j hj
  show ¬ L.all (leB t L[j]) = true
  rw [this]; simp
theorem all_next {t : Tb} {L : List Nat} {x q : Nat} (hq : q < L.length) : (L.take (q + 1)).all (leB t x) = ((L.take q).all (leB t x) && leB t x L[q]) := by
  rw [List.take_succ_eq_append_getElem hq, List.all_append]; simp
end M
theorem nats_at (L : List Nat) (i : Nat) (h : i < L.length) : (nats L)[i]'(by rw [nats_len]; exact h) = (L[i] : Int) := by simp

set_option maxHeartbeats 4000000 in
set_option maxRecDepth 100000 in
theorem least_any (t : M.Tb) (g c lc : Nat) (la : Option Addr) (L : List Nat) (w : World) (hr : RelAt w t g) (hn : t.elems.length ≤ 12) (hl : IntSl w la (nats L)) (hb : ∀ x, x ∈ L → x < t.elems.length) (hlen : L.length ≤ 12) :
    Calls Try.prog 72 #[.slice (some ⟨g, 0, none⟩) t.elems.length c, .slice la L.length lc] w fun e w' => e = .returned (.int .i64 (M.optI (M.lst t L))) ∧ Below w.heap.size w w' := by
  have HR := Lib.hid hr
  have HL := Lib.hid hl
  have HBD := Lib.hid hb
  clear hr hl hb
  go_enter Try.func72, Try.ntmps72
  go_wp2_with fail
  go_loopw [5] (fun i wr => ∃ k : Nat, k ≤ L.length ∧ i = .int .i64 k ∧ Hid (∀ j, (hj : j < L.length) → j < k → L.all (M.leB t L[j]) = false) ∧ Below w.heap.size w wr) (fun i _ => L.length - (intOf i).toNat)
  case atStart => exact ⟨0, by omega, rfl, Lib.hid (fun j _ hj => by omega), Below.refl _ _⟩
  case round =>
    rename_i wr
    obtain ⟨k, hk, rfl, HA, hB⟩ := hrel
    by_cases hkl : k < L.length
    · obtain ⟨lb, lo, rfl, hlat⟩ := HL.out.at (i := k) (by rw [nats_len]; exact hkl)
      have HLAT := Lib.hid hlat
      have n1 : (k : Int) < (L.length : Int) := by omega
      have n2 : (0 : Int) ≤ (k : Int) := by omega
      have hx := HBD.out L[k] (List.getElem_mem hkl)
      have hyes := fun h => M.lst_stop (t := t) hkl h HA.out
      have hnx : L.all (M.leB t L[k]) = false → ∀ j, (hj : j < L.length) → j < k + 1 → L.all (M.leB t L[j]) = false := fun hn j hj hjk => by
        rcases Nat.lt_succ_iff_lt_or_eq.1 hjk with h | rfl
        · exact HA.out j hj h
        · exact hn
      have p0 := hlat.at_ k (by rw [nats_len]; exact hkl)
      rw [nats_at L k hkl] at p0
      obtain ⟨x, hxe⟩ : ∃ x, L[k] = x := ⟨_, rfl⟩
      rw [hxe] at hx hyes hnx p0
      have HP0 := Lib.hid p0
      obtain ⟨xb, xo, xc, r1, r2, r3⟩ := HR.out.at_ x hx
      have HR1 := Lib.hid r1
      have HR3 := Lib.hid r3
      have HYES := Lib.hid hyes
      have HNX := Lib.hid hnx
      have hxn : (x : Int) < (t.elems.length : Int) := by omega
      have hx0 : (0 : Int) ≤ (x : Int) := by omega
      clear hxe hyes hnx r1 r3 hlat p0
      go_wp2_with fail
      go_loopw [6, 7] (fun al j wo => ∃ q : Nat, q ≤ L.length ∧ j = .int .i64 q ∧ al = .bool ((L.take q).all (M.leB t x)) ∧ Below w.heap.size w wo) (fun _ j _ => L.length - (intOf j).toNat)
      case atStart => exact ⟨0, by omega, rfl, by simp, hB⟩
      case round =>
        clear hB
        rename World => wo
        obtain ⟨q, hq, rfl, rfl, hB⟩ := hrel
        by_cases hql : q < L.length
        · have m1 : (q : Int) < (L.length : Int) := by omega
          have m2 : (0 : Int) ≤ (q : Int) := by omega
          have hyn := HBD.out L[q] (List.getElem_mem hql)
          have s0 := HLAT.out.at_ q (by rw [nats_len]; exact hql)
          rw [nats_at L q hql] at s0
          have hal := M.all_next (t := t) (x := x) hql
          obtain ⟨y, hy⟩ : ∃ y, L[q] = y := ⟨_, rfl⟩
          rw [hy] at hyn s0 hal
          have HAL := Lib.hid hal
          have m3 : (y : Int) < (t.elems.length : Int) := by omega
          have m4 : (0 : Int) ≤ (y : Int) := by omega
          have s1 := cell_below s0 hB
          have s2 := cell_below HP0.out hB
          have s3 := cell_below HR1.out hB
          have s4 := cell_below (HR3.out y hyn) hB
          clear hal hy s0
          cases hA : (L.take q).all (M.leB t x) with
          | false =>
            have HN := Lib.hid (show (L.take (q + 1)).all (M.leB t x) = false from by rw [HAL.out, hA]; rfl)
            clear hA
            go_wp2_with fail
            go_quiet (fail)
            go_wp2_with fail
            exact ⟨⟨q + 1, by omega, by simp, by rw [HN.out], belowN hB _⟩, by simp [intOf]; omega⟩
          | true =>
            have HN := Lib.hid (show (L.take (q + 1)).all (M.leB t x) = M.leB t x y from by rw [HAL.out, hA]; rfl)
            clear hA
            go_wp2_with fail
            go_quiet (fail)
            go_wp2_with fail
            exact ⟨⟨q + 1, by omega, by simp, by rw [HN.out], belowN hB _⟩, by simp [intOf]; omega⟩
        · obtain rfl : q = L.length := by omega
          have m1 : decide ((L.length : Int) < (L.length : Int)) = false := decide_eq_false (by omega)
          rw [List.take_length]
          have s2 := cell_below HP0.out hB
          cases hA : L.all (M.leB t x) with
          | true =>
            have HY := Lib.hid (HYES.out hA)
            clear hA
            go_wp2_with fail
            go_ret
            exact ⟨ret_int (by rw [HY.out]; rfl), hB⟩
          | false =>
            have HN := Lib.hid (HNX.out hA)
            clear hA
            go_wp2_with fail
            go_roundw
            case rel => exact ⟨k + 1, by omega, by go_num, HN, hB⟩
            case measure => simp [intOf]; omega
    · obtain rfl : k = L.length := by omega
      have m1 : decide ((L.length : Int) < (L.length : Int)) = false := decide_eq_false (by omega)
      have HY := Lib.hid (M.lst_all (t := t) (L := L) (fun j hj => HA.out j hj hj))
      go_wp2_with fail
      go_ret
      exact ⟨ret_int (by rw [HY.out]; rfl), hB⟩
end Go.Proofs.Ytlpindnbkgaplaa
