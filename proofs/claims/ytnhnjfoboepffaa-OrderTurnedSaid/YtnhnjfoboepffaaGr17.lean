/- Texts of one's own, joined: OrdU. -/
import Derived.Test.YtnhnjfoboepffaaGr15
import Derived.Test.YtnhnjfoboepffaaGr1
namespace Go.Proofs.Ytnhnjfoboepffaa
open Go.RowKit

/-- How many marks are not set. -/
def uns (w : World) (B n : Nat) : Nat := M.unseen (fun i => isT (w.cell? ⟨B, i, none⟩)) n
theorem uns_flB {w : World} {B n : Nat} {f : Nat → Bool} (h : FlB w B n f) : uns w B n = M.unseen f n := by
  unfold uns M.unseen
  congr 1
  exact List.filter_congr fun i hi => by show (!isT (w.cell? ⟨B, i, none⟩)) = _; rw [(h i (List.mem_range.1 hi)).1]; rfl
/-- What is held between two elements whose steps are gone through. -/
structure StA (t : M.Tb) (a : Nat) (w : World) (B : Nat) (v : Value) (wr : World) (S : Nat → Bool) (T : List Nat) : Prop where
  bfs : M.Bfs t a S T
  fl : FlB wr B t.elems.length S
  few : 2 * M.unseen S t.elems.length + T.length ≤ 2 * t.elems.length + 1
  que : ∃ b off cap, v = .slice (some ⟨b, off, none⟩) T.length cap ∧ QueAt wr (B + 1) b off cap (nats T)
  big : B < wr.heap.size
structure StB (t : M.Tb) (a x : Nat) (B : Nat) (v : Value) (wr : World) (S : Nat → Bool) (T : List Nat) (k m : Nat) : Prop where
  bfs : M.BfsIn t a S T x k
  fl : FlB wr B t.elems.length S
  few : 2 * M.unseen S t.elems.length + T.length + 1 ≤ m
  que : ∃ b off cap, v = .slice (some ⟨b, off, none⟩) T.length cap ∧ QueAt wr (B + 1) b off cap (nats T)
  big : B < wr.heap.size

set_option maxHeartbeats 8000000 in
set_option maxRecDepth 100000 in
theorem steps_any (t : M.Tb) (p : Tp) (a b : Nat) (w : World) (ht : TbIn w t p) (hf : M.form t) (ha : a < t.elems.length) (hb : b < t.elems.length) :
    Calls Try.prog 33 #[tbV t p, .int .i64 a, .int .i64 b] w fun e w' => e = .returned (.bool (M.stB t a b)) ∧ Below w.heap.size w w' := by
  obtain ⟨pea, pec, paa, pac, pwa, pwc⟩ := p
  obtain ⟨i0, hi, hz0, hz1, hz2⟩ := info_parts intInfo
  have HI0 := Lib.hid hi
  have HZ0 := Lib.hid hz0
  have HZ1 := Lib.hid hz1
  have HZ2 := Lib.hid hz2
  clear hi hz0 hz1 hz2
  have h12 := hf.twelve
  have hmk := make_bools t.elems.length (by omega)
  have hnn : t.above.length = t.elems.length := hf.above
  have HNN := Lib.hid hnn
  have HT := Lib.hid ht
  have HF := Lib.hid hf
  obtain ⟨c0, c1, c2, c3⟩ := tbBox (t := t) (p := ⟨pea, pec, paa, pac, pwa, pwc⟩) (box_new w (tbA t ⟨pea, pec, paa, pac, pwa, pwc⟩) 26)
  clear c0 c3 ht hf hnn
  go_enter Try.func33, Try.ntmps33
  go_wp2_with fail
  have hB0 : Below w.heap.size w (((w.alloc (.cells (tbA t ⟨pea, pec, paa, pac, pwa, pwc⟩) 26)).alloc (.cells (blsA t.elems.length) 4)).alloc (.cells #[.int .i64 a] 3)) := belowA (belowA (below1 _ _) _) _
  have hF0 := (flB_new (w.alloc (.cells (tbA t ⟨pea, pec, paa, pac, pwa, pwc⟩) 26)) t.elems.length).below _ (by simp) (below1 _ (.cells #[.int .i64 a] 3))
  rw [World.size_alloc] at hF0
  have hS0 : StA t a w (w.heap.size + 1) (.slice (some ⟨w.heap.size + 1 + 1, 0, none⟩) 1 1) (((w.alloc (.cells (tbA t ⟨pea, pec, paa, pac, pwa, pwc⟩) 26)).alloc (.cells (blsA t.elems.length) 4)).alloc (.cells #[.int .i64 a] 3)) (fun _ => false) [a] := by
    refine ⟨M.Bfs.start t a, hF0, ?_, ⟨_, _, _, rfl, Nat.le_refl _, (by simp), fun i hi => ?_, fun i hi => ?_⟩, by simp⟩
    · have := M.unseen_le (fun _ => false) t.elems.length
      simp only [List.length_singleton]; omega
    · have : i = 0 := by simpa using hi
      subst this
      rw [World.cell?_alloc_at _ _ _ _ (by simp)]; rfl
    · have : i = 0 := by omega
      subst this
      refine ⟨by rw [World.cell?_alloc_at _ _ _ _ (by simp)]; rfl, ?_⟩
      have h := box_new ((w.alloc (.cells (tbA t ⟨pea, pec, paa, pac, pwa, pwc⟩) 26)).alloc (.cells (blsA t.elems.length) 4)) #[.int .i64 a] 3
      rw [World.size_alloc, World.size_alloc] at h
      exact Lib.frozen_of_heap h 0
  have hc2 : (((w.alloc (.cells (tbA t ⟨pea, pec, paa, pac, pwa, pwc⟩) 26)).alloc (.cells (blsA t.elems.length) 4)).alloc (.cells #[.int .i64 a] 3)).cell? ⟨w.heap.size, 2, none⟩ = some (.slice paa t.above.length pac) := by
    rw [cell_below c2 (belowA (below1 _ _) _)]
  have HS0 := Lib.hid hS0
  have HB0 := Lib.hid hB0
  have HC2 := Lib.hid hc2
  clear hF0 hS0 hB0 hc2 c1 c2 hmk
  generalize hW0 : ((w.alloc (.cells (tbA t ⟨pea, pec, paa, pac, pwa, pwc⟩) 26)).alloc (.cells (blsA t.elems.length) 4)).alloc (.cells #[.int .i64 a] 3) = W0 at *
  clear hW0
  go_loopw [8] (fun v wr => ∃ S T, Hid (StA t a w (w.heap.size + 1) v wr S T) ∧ Below (w.heap.size + 1) W0 wr) (fun v wr => 2 * uns wr (w.heap.size + 1) t.elems.length + lenV v)
  case atStart => exact ⟨_, _, HS0, Below.refl _ _⟩
  case round =>
    rename_i wr
    obtain ⟨S, T, HS, hB⟩ := hrel
    obtain ⟨qb, qo, qc, rfl, hq⟩ := HS.out.que
    have hBw : Below w.heap.size w wr := HB0.out.trans (hB.mono (by omega))
    have d2 := (hB.cell (p := ⟨w.heap.size, 2, none⟩) (by show w.heap.size < w.heap.size + 1; omega)).trans HC2.out
    cases T with
    | nil =>
      have hfin := M.Bfs.fin HS.out.bfs b
      have hres : S b = M.stB t a b := by rw [Bool.eq_iff_iff, hfin, M.stB_iff HF.out ha]
      have hcb := (HS.out.fl b hb).1
      rw [hres] at hcb
      have n1 : (b : Int) < (t.elems.length : Int) := by omega
      have n2 : (0 : Int) ≤ (b : Int) := by omega
      clear hfin hres hq d2
      go_wp2_with fail
      go_ret
      exact ⟨rfl, hBw⟩
    | cons x T =>
      have hxn : x < t.elems.length := by
        rcases HS.out.bfs.todo x List.mem_cons_self with rfl | h
        · exact ha
        · exact (HS.out.bfs.sound x h).lt HF.out ha
      have hxa : x < t.above.length := by rw [HNN.out]; exact hxn
      have hq0 := hq.at_ 0 (by simp)
      have hle := hq.le
      have hfew := HS.out.few
      rw [List.length_cons] at hfew
      have HU := Lib.hid (uns_flB HS.out.fl)
      have HBI := Lib.hid HS.out.bfs.pop
      have HFL := Lib.hid HS.out.fl
      have hbig := HS.out.big
      obtain ⟨ab, ao, ea, hat⟩ := HT.out.as_.at hxa
      dsimp only at ea
      obtain ⟨ra, rc, q2, _, _, hrow⟩ := hat.at_ x hxa
      replace q2 := cell_below q2 hBw
      have HROW := Lib.hid hrow
      have hgd : t.above.getD x [] = t.above[x] := getD_in _ _ _ hxa
      obtain ⟨row, hr⟩ : ∃ row, t.above[x] = row := ⟨_, rfl⟩
      rw [hr] at q2 HROW hgd
      have HGD := Lib.hid hgd
      rw [ea] at d2
      have e0 : (nats (x :: T))[0]'(by simp) = (x : Int) := rfl
      rw [e0, Nat.add_zero] at hq0
      rw [nats_len] at hle
      have hrl : row.length ≤ 12 := by
        have h := HF.out.rows x hxa
        rw [hr] at h
        have hall : ∀ j, (hj : j < row.length) → (j : Int) ≤ row[j] := fun j => by
          induction j with
          | zero => intro hj; exact (h 0 hj).1
          | succ j ih =>
            intro hj
            have h1 := ih (by omega)
            have h2 := (h (j + 1) hj).2.2 (by omega)
            have h3 : row[j] < row[j + 1] := h2
            omega
        rcases Nat.lt_or_ge 12 row.length with q | q
        · have h1 := hall 12 q
          have h2 := (h 12 q).2.1
          omega
        · exact q
      have hcases : (qc = 1 ∧ QueAt wr (w.heap.size + 1 + 1) qb qo 0 (nats T)) ∨ (¬ qc = 1 ∧ QueAt wr (w.heap.size + 1 + 1) qb (qo + 1) (qc - 1) (nats T)) := by
        by_cases h1 : qc = 1
        · left
          have : T = [] := by
            rw [List.length_cons] at hle
            exact List.length_eq_zero_iff.1 (by omega)
          subst this
          exact ⟨h1, hq.base_, Nat.le_refl _, fun i hi => by simp at hi, fun i hi => by omega⟩
        · exact Or.inr ⟨h1, hq.pop⟩
      have m2 : (x : Int) < (t.above.length : Int) := by omega
      have m3 : (0 : Int) ≤ (x : Int) := by omega
      have m4 : T.length + 1 ≤ qc := by simpa using hle
      obtain ⟨m, hm⟩ : ∃ m, (x :: T).length = m := ⟨_, rfl⟩
      have hmT : m = T.length + 1 := by rw [← hm, List.length_cons]
      have m5 : (0 : Int) < (m : Int) := by omega
      have m6 : (1 : Int) ≤ (m : Int) := by omega
      have d0 : decide (0 < m) = true := decide_eq_true (by omega)
      have d1 : decide ((0 : Int) < (m : Int)) = true := decide_eq_true m5
      have m7 : (m : Int) ≤ (qc : Int) := by omega
      have HMT := Lib.hid hmT
      rw [hm]
      clear hm hmT
      clear e0 hq hat hrow hgd hr hle ea
      rcases hcases with ⟨rfl, hpop⟩ | ⟨hq1, hpop⟩
      all_goals
        have HPOP := Lib.hid hpop
        clear hpop
        go_wp2_with fail
        go_quiet (fail)
        go_wp2_with fail
        go_loopw [8, 10] (fun v i wo => ∃ S' T' k, i = .int .i64 (k : Nat) ∧ k ≤ row.length ∧ Hid (StB t a x (w.heap.size + 1) v wo S' T' k (2 * M.unseen S t.elems.length + (T.length + 1))) ∧ Below (w.heap.size + 1) W0 wo) (fun _ i _ => row.length - (intOf i).toNat)
        case atStart =>
          exact ⟨S, T, 0, rfl, Nat.zero_le _, Lib.hid ⟨HBI.out, HFL.out.below (w.heap.size + 1 + 1) (by omega) (belowN (Below.refl _ _) _), by omega, ⟨qb, _, _, (by have := HMT.out; congr 1; omega), HPOP.out.below (belowN (Below.refl _ _) _)⟩, hbig⟩, belowN hB _⟩
        case round =>
          clear hq0 q2 HPOP d2
          rename World => wo
          obtain ⟨S', T', k, rfl, hk, HS2, hBo⟩ := hrel
          obtain ⟨rb, ro, rcc, rfl, hqr⟩ := HS2.out.que
          have hBow : Below w.heap.size w wo := HB0.out.trans (hBo.mono (by omega))
          by_cases hkl : k < row.length
          · obtain ⟨lb, lo, elb, hlat⟩ := HROW.out.at hkl
            have r0 := cell_below (hlat.at_ k hkl) hBow
            have hlb := hlat.lt
            subst elb
            have hmem : row[k] ∈ t.above.getD x [] := by rw [HGD.out]; exact List.getElem_mem _
            obtain ⟨y, hy, hup, hyn⟩ := M.row_nat HF.out hxn hmem
            rw [hy] at r0
            have f0 := HS2.out.fl y hyn
            have n1 : (k : Int) < (row.length : Int) := by omega
            have n2 : (0 : Int) ≤ (k : Int) := by omega
            have n3 : (y : Int) < (t.elems.length : Int) := by omega
            have n4 : (0 : Int) ≤ (y : Int) := by omega
            have hgl : (t.above.getD x []).length = row.length := by rw [HGD.out]
            have hgk : ∀ h : k < (t.above.getD x []).length, (t.above.getD x [])[k] = (y : Int) := by rw [HGD.out]; exact fun _ => hy
            have HYK := Lib.hid hgk
            have HGL := Lib.hid hgl
            have hbg := HS2.out.big
            obtain ⟨f0, g0⟩ := f0
            clear hlat hmem hy hup hgk hgl
            cases hs : S' y with
            | true =>
              rw [hs] at f0
              have HB2 := Lib.hid (HS2.out.bfs.yes (by rw [HGL.out]; exact hkl) (by rw [HYK.out, Int.toNat_natCast]; exact hs))
              clear hs hqr
              go_wp2_with fail
              go_roundw
              case rel => exact ⟨S', T', k + 1, by go_num, hkl, Lib.hid ⟨HB2.out, HS2.out.fl, HS2.out.few, HS2.out.que, HS2.out.big⟩, hBo⟩
              case measure => simp [intOf]; omega
            | false =>
              rw [hs] at f0
              have HB2 := Lib.hid (HS2.out.bfs.push (by rw [HGL.out]; exact hkl) (HYK.out _))
              have r1 : (wo.setCell ⟨w.heap.size + 1, y, none⟩ (.bool true)).cell? ⟨lb, lo + k, none⟩ = some (.int .i64 y) := by
                rw [World.cell?_setCell_other _ _ _ _ (by intro q; have := congrArg Addr.block q; simp at this; omega)]; exact r0
              have HUP := Lib.hid (M.unseen_push S' t.elems.length y hyn hs)
              have hfew2 := HS2.out.few
              have HQ := Lib.hid ((hqr.other (p := ⟨w.heap.size + 1, y, none⟩) (by show w.heap.size + 1 < w.heap.size + 1 + 1; omega) (.bool true)).below (below1 _ (.cells #[.int .i64 y] 3)))
              have HF2 := Lib.hid ((HS2.out.fl.set y true).below _ (by simp [World.setCell]; omega) (below1 _ (.cells #[.int .i64 y] 3)))
              have hB2 : Below (w.heap.size + 1) W0 ((wo.setCell ⟨w.heap.size + 1, y, none⟩ (.bool true)).alloc (.cells #[.int .i64 y] 3)) := (hBo.setCell (p := ⟨w.heap.size + 1, y, none⟩) (Nat.le_refl _) _).alloc (by simp [World.setCell]; omega) _
              have hfl : T'.length + 1 ≤ 1000000 := by omega
              have hi := HI0.out
              have hz0 := HZ0.out
              have hz1 := HZ1.out
              have hz2 := HZ2.out
              clear hs hqr
              go_wp2_with (at_builtin; refine wpList_append_que _ rfl _ _ 37 rfl 3 i0 Try.underlying37 hi hz0 hz1 hz2 (w.heap.size + 1 + 1) rb ro rcc (nats T') (congrArg (fun n => Value.slice (some ⟨rb, ro, none⟩) n rcc) (nats_len T').symm) HQ.out ?c1 ⟨wo.heap.size, 0, none⟩ 1 (y : Int) rfl ?c2 ?c3 ?_)
              case c1 => simp [World.setCell]; omega
              case c2 =>
                show World.cell? _ ⟨wo.heap.size, 0, none⟩ = _
                rw [World.cell?_alloc_at _ _ _ _ (by simp [World.setCell])]; rfl
              case c3 => rw [nats_len]; exact hfl
              intro b' off' cap' w' hq' hbl
              have HQ' := Lib.hid hq'
              have HBL := Lib.hid hbl
              clear hq' hbl hi hz0 hz1 hz2
              go_wp2_with fail
              go_roundw
              case rel =>
                refine ⟨_, T' ++ [y], k + 1, by go_num, hkl, Lib.hid ⟨HB2.out, HF2.out.below _ (by omega) HBL.out, ?_, ⟨b', off', cap', ?_, ?_⟩, ?_⟩, ?_⟩
                · have := HUP.out
                  rw [List.length_append, List.length_singleton]; omega
                · rw [List.length_append, List.length_singleton]
                · have h := HQ'.out
                  rwa [show nats T' ++ [(y : Int)] = nats (T' ++ [y]) from by simp] at h
                · have := HBL.out.size; simp [World.setCell] at this; omega
                · exact hB2.trans (HBL.out.mono (by omega))
              case measure => simp [intOf]; omega
          · obtain rfl : k = row.length := by omega
            have n1 : decide ((row.length : Int) < (row.length : Int)) = false := decide_eq_false (by omega)
            have hgl : (t.above.getD x []).length = row.length := by rw [HGD.out]
            have hbf := HS2.out.bfs
            rw [← hgl] at hbf
            have HBF := Lib.hid hbf.fin
            have hfew2 := HS2.out.few
            have HUO := Lib.hid (uns_flB HS2.out.fl)
            clear hgl hbf hqr
            go_wp2_with fail
            go_roundw
            case rel => exact ⟨S', T', Lib.hid ⟨HBF.out, HS2.out.fl, by omega, ⟨rb, ro, rcc, rfl, by obtain ⟨b', o', c', e, h⟩ := HS2.out.que; cases e; exact h⟩, HS2.out.big⟩, hBo⟩
            case measure =>
              rw [HUO.out, HU.out]
              have := HMT.out
              simp [lenV]; omega
end Go.Proofs.Ytnhnjfoboepffaa
