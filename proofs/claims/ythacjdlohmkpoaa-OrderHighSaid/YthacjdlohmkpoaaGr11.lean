/- Texts of one's own, joined: OrdW, OrdX. -/
import Derived.Test.YthacjdlohmkpoaaGr10
import Derived.Deep.DeepCutAuto
import Derived.Deep.RegionWith
namespace Go.Proofs.Ythacjdlohmkpoaa
open Go.RowKit

namespace M
/-- The first ones of the elements above two. -/
def bndTo (t : Tb) (a b k : Nat) : List Nat := (List.range k).filter fun c => leB t a c && leB t b c
theorem bndTo_yes (t : Tb) (a b k : Nat) (h : (leB t a k && leB t b k) = true) : bndTo t a b (k + 1) = bndTo t a b k ++ [k] := by unfold bndTo; rw [List.range_succ, List.filter_append]; simp [h]
theorem bndTo_no (t : Tb) (a b k : Nat) (h : (leB t a k && leB t b k) = false) : bndTo t a b (k + 1) = bndTo t a b k := by unfold bndTo; rw [List.range_succ, List.filter_append]; simp [h]
theorem bndTo_len (t : Tb) (a b k : Nat) : (bndTo t a b k).length ≤ k := by
  unfold bndTo
  exact Nat.le_trans (List.length_filter_le _ _) (by rw [List.length_range]; exact Nat.le_refl _)
theorem bndTo_all (t : Tb) (a b : Nat) : bndTo t a b t.elems.length = bnd t a b := rfl
end M
def natCs (l : List Nat) : List Value := intCells (nats l)
theorem natCs_snoc (l : List Nat) (k : Nat) : natCs (l ++ [k]) = natCs l ++ [.int .i64 k] := by simp [natCs]

set_option maxHeartbeats 4000000 in
set_option maxRecDepth 100000 in
theorem bounds_any (t : M.Tb) (g c a b : Nat) (w : World) (hr : RelAt w t g) (hn : t.elems.length ≤ 12) (ha : a < t.elems.length) (hb : b < t.elems.length) :
    Calls Try.prog 93 #[.slice (some ⟨g, 0, none⟩) t.elems.length c, .int .i64 a, .int .i64 b] w (IntsPost (nats (M.bnd t a b)) w) := by
  obtain ⟨i0, hi, hz0, hz1, hz2⟩ := info_parts intInfo
  have HI0 := Lib.hid hi
  have HZ0 := Lib.hid hz0
  have HZ1 := Lib.hid hz1
  have HZ2 := Lib.hid hz2
  clear hi hz0 hz1 hz2
  have HR := Lib.hid hr
  obtain ⟨ab, ao, ac, p1, p2, p3⟩ := hr.at_ a ha
  obtain ⟨bb, bo, bc, q1, q2, q3⟩ := hr.at_ b hb
  have P3 := Lib.hid p3
  have Q3 := Lib.hid q3
  have n1 : (a : Int) < (t.elems.length : Int) := by omega
  have n2 : (0 : Int) ≤ (a : Int) := by omega
  have n3 : (b : Int) < (t.elems.length : Int) := by omega
  have n4 : (0 : Int) ≤ (b : Int) := by omega
  clear hr p3 q3
  have P1 := Lib.hid p1
  have Q1 := Lib.hid q1
  clear p1 q1
  go_enter Try.func93, Try.ntmps93
  go_wp2_with fail
  go_loopw [7, 8] (fun v i wr => ∃ k : Nat, k ≤ t.elems.length ∧ i = .int .i64 k ∧ Hid (wr.ownsRow w.heap.size 3 1 v (M.bndTo t a b k).length (natCs (M.bndTo t a b k))) ∧ Below w.heap.size w wr) (fun _ i _ => t.elems.length - (intOf i).toNat)
  case atStart => exact ⟨0, by omega, rfl, Lib.hid ⟨rfl, Or.inl ⟨rfl, rfl⟩⟩, Below.refl _ _⟩
  case round =>
    rename_i wr
    obtain ⟨k, hk, rfl, HO, hB⟩ := hrel
    obtain ⟨av, ac', rfl⟩ := own_slice HO.out
    by_cases hkl : k < t.elems.length
    · have m1 : (k : Int) < (t.elems.length : Int) := by omega
      have m2 : (0 : Int) ≤ (k : Int) := by omega
      have r1 := cell_below P1.out hB
      have r2 := cell_below (P3.out k hkl) hB
      have r3 := cell_below Q1.out hB
      have r4 := cell_below (Q3.out k hkl) hB
      have hle := M.bndTo_len t a b k
      have hz := hB.size
      cases hA : M.leB t a k with
      | false =>
        rw [hA] at r2
        have HN := Lib.hid (M.bndTo_no t a b k (by rw [hA]; rfl))
        clear hA
        go_wp2_with fail
        go_roundw
        case rel => exact ⟨k + 1, by omega, by go_num, Lib.hid (by rw [HN.out]; exact HO.out), hB⟩
        case measure => simp [intOf]; omega
      | true =>
        rw [hA] at r2
        cases hBb : M.leB t b k with
        | false =>
          rw [hBb] at r4
          have HN := Lib.hid (M.bndTo_no t a b k (by rw [hA, hBb]; rfl))
          clear hA hBb
          go_wp2_with fail
          go_roundw
          case rel => exact ⟨k + 1, by omega, by go_num, Lib.hid (by rw [HN.out]; exact HO.out), hB⟩
          case measure => simp [intOf]; omega
        | true =>
          rw [hBb] at r4
          have HN := Lib.hid (M.bndTo_yes t a b k (by rw [hA, hBb]; rfl))
          clear hA hBb
          have hi := HI0.out
          have hz0 := HZ0.out
          have hz1 := HZ1.out
          have hz2 := HZ2.out
          go_wp2_with (at_builtin; refine wpList_append_own _ rfl _ _ 36 rfl w.heap.size 3 i0 (.int .i64 0) 1 8 Try.underlying36 hi hz0 hz1 hz2 rfl (by decide) _ _ _ rfl (HO.out.alloc _) ⟨wr.heap.size, 0, none⟩ 1 1 [.int .i64 k] rfl rfl ?c1 ?c2 ?c3 ?c4 ?c5 ?_)
          case c1 =>
            intro j u hj
            match j, hj with
            | 0, hj => simp at hj; subst hj; simp [Addr.add]
          case c2 => intro u hu; simp at hu; subst hu; rfl
          case c3 => unfold maxLen; omega
          case c4 => omega
          case c5 => simp; omega
          intro v' w3 hown3 hgrow _
          have hB3 : Below w.heap.size w w3 := (hB.alloc hz _).grown hgrow (by simp; omega) (fun j hj => (HO.out.lt j hj).1)
          have R1 := Lib.hid hown3
          clear hown3 hgrow hi hz0 hz1 hz2
          obtain ⟨bv, bc', rfl⟩ := own_slice R1.out
          go_wp2_with fail
          go_roundw
          case rel =>
            refine ⟨k + 1, by omega, by go_num, Lib.hid ?_, hB3⟩
            rw [HN.out, List.length_append, natCs_snoc]
            exact R1.out
          case measure => simp [intOf]; omega
    · obtain rfl : k = t.elems.length := by omega
      have m1 : decide ((t.elems.length : Int) < (t.elems.length : Int)) = false := decide_eq_false (by omega)
      have ho := HO.out
      rw [M.bndTo_all, ← nats_len (M.bnd t a b)] at ho
      unfold natCs at ho
      obtain ⟨a', c', e, h1, h2, h3⟩ := own_int ho
      have e2 : Ending.returned (.slice av (M.bndTo t a b t.elems.length).length ac') = Ending.returned (.slice a' (nats (M.bnd t a b)).length c') := congrArg Ending.returned (by rw [← e, nats_len, M.bndTo_all])
      have HE := Lib.hid e2
      have HA := Lib.hid h3
      have H1 := Lib.hid h1
      have H2 := Lib.hid h2
      clear h1 h2 h3 ho e e2
      go_wp2_with fail
      go_ret
      exact ⟨_, _, HE.out, H1.out, H2.out, HA.out, hB⟩

namespace M
def optI : Option Nat → Int
  | some x => x
  | none => -1
theorem lst_stop {t : Tb} {L : List Nat} {k : Nat} (hk : k < L.length) (h : L.all (leB t L[k]) = true) (hb : ∀ j, (hj : j < L.length) → j < k → L.all (leB t L[j]) = false) : lst t L = some L[k] := by
  unfold lst
  rw [List.find?_eq_some_iff_getElem]
  exact ⟨h, k, hk, rfl, fun j hj => by
    have := hb j (by omega) hj
    show (!L.all (leB t L[j])) = true
    rw [this]; rfl⟩
theorem lst_all {t : Tb} {L : List Nat} (hb : ∀ j, (hj : j < L.length) → L.all (leB t L[j]) = false) : lst t L = none := by
  unfold lst
  rw [List.find?_eq_none]
  intro x hx
  obtain ⟨j, hj, rfl⟩ := List.getElem_of_mem hx
  have := hb j hj
  show ¬ L.all (leB t L[j]) = true
  rw [this]; simp
theorem all_next {t : Tb} {L : List Nat} {x q : Nat} (hq : q < L.length) : (L.take (q + 1)).all (leB t x) = ((L.take q).all (leB t x) && leB t x L[q]) := by
  rw [List.take_succ_eq_append_getElem hq, List.all_append]; simp
end M
theorem nats_at (L : List Nat) (i : Nat) (h : i < L.length) : (nats L)[i]'(by rw [nats_len]; exact h) = (L[i] : Int) := by simp

set_option maxHeartbeats 4000000 in
set_option maxRecDepth 100000 in
theorem least_any (t : M.Tb) (g c lc : Nat) (la : Option Addr) (L : List Nat) (w : World) (hr : RelAt w t g) (_hn : t.elems.length ≤ 12) (hl : IntSl w la (nats L)) (hb : ∀ x, x ∈ L → x < t.elems.length) (hlen : L.length ≤ 12) :
    Calls Try.prog 94 #[.slice (some ⟨g, 0, none⟩) t.elems.length c, .slice la L.length lc] w fun e w' => e = .returned (.int .i64 (M.optI (M.lst t L))) ∧ Below w.heap.size w w' := by
  have HR := Lib.hid hr
  have HL := Lib.hid hl
  have HBD := Lib.hid hb
  clear hr hl hb
  go_enter Try.func94, Try.ntmps94
  go_wp2_with fail
  go_loopw [5] (fun i wr => ∃ k : Nat, k ≤ L.length ∧ i = .int .i64 k ∧ Hid (∀ j, (hj : j < L.length) → j < k → L.all (M.leB t L[j]) = false) ∧ Below w.heap.size w wr) (fun i _ => L.length - (intOf i).toNat)
  case atStart => exact ⟨0, by omega, rfl, Lib.hid (fun j _ hj => by omega), Below.refl _ _⟩
  case round =>
    rename_i wr
    obtain ⟨k, hk, rfl, HA, hB⟩ := hrel
    by_cases hkl : k < L.length
    · obtain ⟨lb, lo, rfl, hlat⟩ := HL.out.at (i := k) (by rw [nats_len]; exact hkl)
      have HLAT := Lib.hid hlat
      have n1 : (k : Int) < (L.length : Int) := by omega
      have n2 : (0 : Int) ≤ (k : Int) := by omega
      have hx := HBD.out L[k] (List.getElem_mem hkl)
      have hyes := fun h => M.lst_stop (t := t) hkl h HA.out
      have hnx : L.all (M.leB t L[k]) = false → ∀ j, (hj : j < L.length) → j < k + 1 → L.all (M.leB t L[j]) = false := fun hn j hj hjk => by
        rcases Nat.lt_succ_iff_lt_or_eq.1 hjk with h | rfl
        · exact HA.out j hj h
        · exact hn
      have p0 := hlat.at_ k (by rw [nats_len]; exact hkl)
      rw [nats_at L k hkl] at p0
      obtain ⟨x, hxe⟩ : ∃ x, L[k] = x := ⟨_, rfl⟩
      rw [hxe] at hx hyes hnx p0
      have HP0 := Lib.hid p0
      obtain ⟨xb, xo, xc, r1, r2, r3⟩ := HR.out.at_ x hx
      have HR1 := Lib.hid r1
      have HR3 := Lib.hid r3
      have HYES := Lib.hid hyes
      have HNX := Lib.hid hnx
      have hxn : (x : Int) < (t.elems.length : Int) := by omega
      have hx0 : (0 : Int) ≤ (x : Int) := by omega
      clear hxe hyes hnx r1 r3 hlat p0
      go_wp2_with fail
      go_loopw [6, 7] (fun al j wo => ∃ q : Nat, q ≤ L.length ∧ j = .int .i64 q ∧ al = .bool ((L.take q).all (M.leB t x)) ∧ Below w.heap.size w wo) (fun _ j _ => L.length - (intOf j).toNat)
      case atStart => exact ⟨0, by omega, rfl, by simp, hB⟩
      case round =>
        clear hB
        rename World => wo
        obtain ⟨q, hq, rfl, rfl, hB⟩ := hrel
        by_cases hql : q < L.length
        · have m1 : (q : Int) < (L.length : Int) := by omega
          have m2 : (0 : Int) ≤ (q : Int) := by omega
          have hyn := HBD.out L[q] (List.getElem_mem hql)
          have s0 := HLAT.out.at_ q (by rw [nats_len]; exact hql)
          rw [nats_at L q hql] at s0
          have hal := M.all_next (t := t) (x := x) hql
          obtain ⟨y, hy⟩ : ∃ y, L[q] = y := ⟨_, rfl⟩
          rw [hy] at hyn s0 hal
          have HAL := Lib.hid hal
          have m3 : (y : Int) < (t.elems.length : Int) := by omega
          have m4 : (0 : Int) ≤ (y : Int) := by omega
          have s1 := cell_below s0 hB
          have s2 := cell_below HP0.out hB
          have s3 := cell_below HR1.out hB
          have s4 := cell_below (HR3.out y hyn) hB
          clear hal hy s0
          cases hA : (L.take q).all (M.leB t x) with
          | false =>
            have HN := Lib.hid (show (L.take (q + 1)).all (M.leB t x) = false from by rw [HAL.out, hA]; rfl)
            clear hA
            go_wp2_with fail
            go_quiet (fail)
            go_wp2_with fail
            exact ⟨⟨q + 1, by omega, by simp, by rw [HN.out], belowN hB _⟩, by simp [intOf]; omega⟩
          | true =>
            have HN := Lib.hid (show (L.take (q + 1)).all (M.leB t x) = M.leB t x y from by rw [HAL.out, hA]; rfl)
            clear hA
            go_wp2_with fail
            go_quiet (fail)
            go_wp2_with fail
            exact ⟨⟨q + 1, by omega, by simp, by rw [HN.out], belowN hB _⟩, by simp [intOf]; omega⟩
        · obtain rfl : q = L.length := by omega
          have m1 : decide ((L.length : Int) < (L.length : Int)) = false := decide_eq_false (by omega)
          rw [List.take_length]
          have s2 := cell_below HP0.out hB
          cases hA : L.all (M.leB t x) with
          | true =>
            have HY := Lib.hid (HYES.out hA)
            clear hA
            go_wp2_with fail
            go_ret
            exact ⟨ret_int (by rw [HY.out]; rfl), hB⟩
          | false =>
            have HN := Lib.hid (HNX.out hA)
            clear hA
            go_wp2_with fail
            go_roundw
            case rel => exact ⟨k + 1, by omega, by go_num, HN, hB⟩
            case measure => simp [intOf]; omega
    · obtain rfl : k = L.length := by omega
      have m1 : decide ((L.length : Int) < (L.length : Int)) = false := decide_eq_false (by omega)
      have HY := Lib.hid (M.lst_all (t := t) (L := L) (fun j hj => HA.out j hj hj))
      go_wp2_with fail
      go_ret
      exact ⟨ret_int (by rw [HY.out]; rfl), hB⟩
end Go.Proofs.Ythacjdlohmkpoaa

namespace Go.Proofs.Ythacjdlohmkpoaa
open Go.RowKit

abbrev brkV (x : Nat × Nat × Nat) : Value := .agg #[.int .u8 x.1, .int .i64 x.2.1, .int .i64 x.2.2]
abbrev br0 : Array Value := #[.int .u8 0, .int .i64 0, .int .i64 0]
/-- A break of no kind in its box. -/
structure Z3 (W : World) (B : Nat) : Prop where
  c0 : W.cell? ⟨B, 0, none⟩ = some (.int .u8 0)
  c1 : W.cell? ⟨B, 1, none⟩ = some (.int .i64 0)
  c2 : W.cell? ⟨B, 2, none⟩ = some (.int .i64 0)
  f0 : W.frozen? ⟨B, 0, none⟩ = false
  f1 : W.frozen? ⟨B, 1, none⟩ = false
  f2 : W.frozen? ⟨B, 2, none⟩ = false
theorem z3_of {W : World} {B : Nat} {T : TypeId} (h : W.heap[B]? = some (.cells br0 T (0, 0))) : Z3 W B :=
  ⟨by rw [Lib.cell_of_heap h]; rfl, by rw [Lib.cell_of_heap h]; rfl, by rw [Lib.cell_of_heap h]; rfl, Lib.frozen_of_heap h 0, Lib.frozen_of_heap h 1, Lib.frozen_of_heap h 2⟩
theorem Z3.below {W W' : World} {B n : Nat} (h : Z3 W B) (hB : Below n W W') (hn : B < n) : Z3 W' B :=
  ⟨(hB.cell (p := ⟨B, 0, none⟩) hn).trans h.c0, (hB.cell (p := ⟨B, 1, none⟩) hn).trans h.c1, (hB.cell (p := ⟨B, 2, none⟩) hn).trans h.c2, (hB.frozen (p := ⟨B, 0, none⟩) hn).trans h.f0, (hB.frozen (p := ⟨B, 1, none⟩) hn).trans h.f1, (hB.frozen (p := ⟨B, 2, none⟩) hn).trans h.f2⟩

set_option maxHeartbeats 8000000 in
set_option maxRecDepth 100000 in
theorem refBreak_any (t : M.Tb) (p : Tp) (w : World) (ht : TbIn w t p) (hf : M.form t) :
    Calls Try.prog 69 #[tbV t p] w fun e w' => e = .returned (brkV (M.brk t)) ∧ Below w.heap.size w w' := by
  obtain ⟨pea, pec, paa, pac, pwa, pwc⟩ := p
  have h12 := hf.twelve
  have hone := hf.one
  have hwl := hf.wrong
  have HF := Lib.hid hf
  have hBB : Below w.heap.size w ((w.alloc (.cells (tbA t ⟨pea, pec, paa, pac, pwa, pwc⟩) 26)).alloc (.cells br0 52)) := belowA (below1 _ _) _
  have HT := Lib.hid (ht.below hBB)
  have HX := Lib.hid ((tbBox (t := t) (p := ⟨pea, pec, paa, pac, pwa, pwc⟩) (box_new w (tbA t ⟨pea, pec, paa, pac, pwa, pwc⟩) 26)).below (below1 _ (.cells br0 52)))
  have HZ := Lib.hid (z3_of (box_last w (.cells (tbA t ⟨pea, pec, paa, pac, pwa, pwc⟩) 26) br0 52))
  have HBB := Lib.hid hBB
  have HWL := Lib.hid hwl
  clear ht hf hBB hwl
  go_enter Try.func69, Try.ntmps69
  go_upto_region 1 with fail
  generalize hW0 : (w.alloc (.cells (tbA t ⟨pea, pec, paa, pac, pwa, pwc⟩) 26)).alloc (.cells br0 52) = W0 at *
  have hz0 : w.heap.size + 2 ≤ W0.heap.size := by rw [← hW0]; simp
  clear hW0
  obtain ⟨x0, x1, x2, x3⟩ := HX.out
  go_cut [3, 4] (fun c d wx => c = .int .i64 t.elems.length ∧ ∃ g cc, d = .slice (some ⟨g, 0, none⟩) t.elems.length cc ∧ Hid (RelAt wx t g) ∧ Below W0.heap.size W0 wx)
  case first =>
    go_region_with (go_at_call 92; refine (rel_any t ⟨pea, pec, paa, pac, pwa, pwc⟩ _ (HT.out.below (by first | exact Below.refl _ _ | exact (Below.refl _ _).drew | exact (Below.refl _ _).drew.drew)) HF.out).mono ?_; rintro e w1 ⟨g, c, rfl, hc, hr, hB1⟩; have y1 := cell_below (w := W0.drew) x1 hB1)
    all_goals
      have HR := Lib.hid hr
      have hB := below2 ((Below.refl W0.heap.size W0).drew) hB1
      clear hr hB1
      go_wp2_with fail
      go_meet
      exact ⟨rfl, g, c, rfl, HR.out, hB⟩
  case rest =>
    obtain ⟨rfl, g, cc, rfl, HR, hB⟩ := hcut
    clear x0 x1 x2 x3
    go_wp2_with fail
    go_loopw [5] (fun i wr => ∃ k : Nat, k ≤ t.elems.length ∧ i = .int .i64 k ∧ Hid (∀ j, j < k → M.stB t j j = false) ∧ Hid (RelAt wr t g) ∧ Below W0.heap.size W0 wr) (fun i _ => t.elems.length - (intOf i).toNat)
    case atStart => exact ⟨0, by omega, rfl, Lib.hid (fun j hj => by omega), HR, hB⟩
    case round =>
      clear hB HR
      rename World => wr
      obtain ⟨k, hk, rfl, H1, HR, hB⟩ := hrel
      obtain ⟨x0, x1, x2, x3⟩ := HX.out.below hB
      by_cases hkl : k < t.elems.length
      · have n1 : (k : Int) < (t.elems.length : Int) := by omega
        have HC := Lib.hid (steps_any t ⟨pea, pec, paa, pac, pwa, pwc⟩ k k wr (HT.out.below hB) HF.out hkl hkl)
        cases hs : M.stB t k k with
        | true =>
          have HS := Lib.hid hs
          clear hs
          go_wp2_with fail
          refine HC.out.mono ?_
          rintro e w1 ⟨rfl, hB1⟩
          rw [HS.out]
          have hB2 := below2 hB hB1
          clear hB1
          obtain ⟨r0, r1, r2, g0, g1, g2⟩ := HZ.out.below hB2 (by omega)
          obtain ⟨q0, q1, q2⟩ := set3_at w1 (w.heap.size + 1) (.int .u8 1) (.int .i64 k) (.int .i64 0) _ _ _ r0 r1 r2
          have hBU := below_set3 (W := w1) (R := w.heap.size + 1) (HBB.out.trans (hB2.mono (by omega))) (by omega) (.int .u8 1) (.int .i64 k) (.int .i64 0)
          have HRES := Lib.hid (M.brk_cycle hkl HS.out H1.out)
          go_wp2_with fail
          exact bodyPost_ret (v := .agg #[.int .u8 1, .int .i64 k, .int .i64 0]) (by simp [results, Try.results69, go_sem, q0, q1, q2]) rfl ⟨by rw [HRES.out]; rfl, hBU⟩
        | false =>
          have HS := Lib.hid hs
          have HN := Lib.hid (show ∀ j, j < k + 1 → M.stB t j j = false from fun j hj => by
            rcases Nat.lt_succ_iff_lt_or_eq.1 hj with h | rfl
            · exact H1.out j h
            · exact HS.out)
          clear hs
          go_wp2_with fail
          refine HC.out.mono ?_
          rintro e w1 ⟨rfl, hB1⟩
          rw [HS.out]
          have hB2 := below2 hB hB1
          have HR2 := Lib.hid (HR.out.below hB1)
          clear hB1
          go_wp2_with fail
          go_roundw
          case rel => exact ⟨k + 1, by omega, by go_num, HN, HR2, hB2⟩
          case measure => simp [intOf]; omega
      · obtain rfl : k = t.elems.length := by omega
        have m1 : decide ((t.elems.length : Int) < (t.elems.length : Int)) = false := decide_eq_false (by omega)
        clear x0 x1 x2 x3
        go_wp2_with fail
        go_loopw [6] (fun i wr => ∃ k : Nat, k ≤ t.elems.length ∧ i = .int .i64 k ∧ Hid (∀ j, j < k → M.leB t 0 j = true) ∧ Hid (RelAt wr t g) ∧ Below W0.heap.size W0 wr) (fun i _ => t.elems.length - (intOf i).toNat)
        case atStart => exact ⟨0, by omega, rfl, Lib.hid (fun j hj => by omega), HR, hB⟩
        case round =>
          clear hB HR
          rename World => wr
          obtain ⟨k, hk, rfl, H2, HR, hB⟩ := hrel
          by_cases hkl : k < t.elems.length
          · have n1 : (k : Int) < (t.elems.length : Int) := by omega
            have n2 : (0 : Int) ≤ (k : Int) := by omega
            have n3 : (0 : Int) < (t.elems.length : Int) := by omega
            obtain ⟨rb, ro, rc, r1, _, r3⟩ := HR.out.at_ 0 (by omega)
            have r4 := r3 k hkl
            clear r3
            cases hs : M.leB t 0 k with
            | false =>
              rw [hs] at r4
              have HS := Lib.hid hs
              have z0 := r1
              clear hs
              obtain ⟨e0, e1, e2, g0, g1, g2⟩ := HZ.out.below hB (by omega)
              obtain ⟨q0, q1, q2⟩ := set3_at wr (w.heap.size + 1) (.int .u8 2) (.int .i64 k) (.int .i64 0) _ _ _ e0 e1 e2
              have hBU := below_set3 (W := wr) (R := w.heap.size + 1) (HBB.out.trans (hB.mono (by omega))) (by omega) (.int .u8 2) (.int .i64 k) (.int .i64 0)
              have HRES := Lib.hid (M.brk_base H1.out hkl HS.out H2.out)
              go_wp2_with fail
              exact bodyPost_ret (v := .agg #[.int .u8 2, .int .i64 k, .int .i64 0]) (by simp [results, Try.results69, go_sem, q0, q1, q2]) rfl ⟨by rw [HRES.out]; rfl, hBU⟩
            | true =>
              rw [hs] at r4
              have HN := Lib.hid (show ∀ j, j < k + 1 → M.leB t 0 j = true from fun j hj => by
                rcases Nat.lt_succ_iff_lt_or_eq.1 hj with h | rfl
                · exact H2.out j h
                · exact hs)
              clear hs
              go_wp2_with fail
              go_roundw
              case rel => exact ⟨k + 1, by omega, by go_num, HN, HR, hB⟩
              case measure => simp [intOf]; omega
          · obtain rfl : k = t.elems.length := by omega
            go_wp2_with fail
            go_loopw [7] (fun i wr => ∃ k : Nat, k ≤ t.elems.length ∧ i = .int .i64 k ∧ Hid (∀ a', a' < k → ∀ b', a' < b' → b' < t.elems.length → M.jn t a' b' ≠ none) ∧ Hid (RelAt wr t g) ∧ Below W0.heap.size W0 wr) (fun i _ => t.elems.length - (intOf i).toNat)
            case atStart => exact ⟨0, by omega, rfl, Lib.hid (fun j hj => by omega), HR, hB⟩
            case round =>
              clear hB HR
              rename World => wr
              obtain ⟨k, hk, rfl, H3, HR, hB⟩ := hrel
              by_cases hkl : k < t.elems.length
              · have n1 : (k : Int) < (t.elems.length : Int) := by omega
                have n2 : (0 : Int) ≤ (k : Int) := by omega
                go_wp2_with fail
                go_loopw [8] (fun i wr => ∃ q : Nat, k < q ∧ q ≤ t.elems.length ∧ i = .int .i64 q ∧ Hid (∀ b', k < b' → b' < q → M.jn t k b' ≠ none) ∧ Hid (RelAt wr t g) ∧ Below W0.heap.size W0 wr) (fun i _ => t.elems.length - (intOf i).toNat)
                case atStart => exact ⟨k + 1, by omega, by omega, by simp, Lib.hid (fun j h1 h2 => by omega), HR, hB⟩
                case round =>
                  clear hB HR
                  rename World => wr
                  obtain ⟨q, hkq, hq, rfl, H4, HR, hB⟩ := hrel
                  by_cases hql : q < t.elems.length
                  · have m2 : (q : Int) < (t.elems.length : Int) := by omega
                    have HC := Lib.hid (bounds_any t g cc k q wr HR.out h12 hkl hql)
                    have HBL := Lib.hid (show (M.bnd t k q).length ≤ 12 from Nat.le_trans (M.bndTo_len t k q t.elems.length) h12)
                    go_wp2_with fail
                    refine HC.out.mono ?_
                    rintro e w1 ⟨la, lc, rfl, _, _, hls, hB1⟩
                    rw [nats_len]
                    have HLS := Lib.hid hls
                    have hB2 := below2 hB hB1
                    have HR2 := Lib.hid (HR.out.below hB1)
                    clear hls hB1
                    by_cases hnil : M.bnd t k q = []
                    · have hl0 : (M.bnd t k q).length = 0 := by rw [hnil]; rfl
                      have k1 : (((M.bnd t k q).length : Int) == 0) = true := by rw [hl0]; rfl
                      have k2 : ((M.bnd t k q).length == 0) = true := by rw [hl0]; rfl
                      have HNIL := Lib.hid hnil
                      clear hl0 hnil
                      obtain ⟨r0, r1, r2, g0, g1, g2⟩ := HZ.out.below hB2 (by omega)
                      obtain ⟨q0, q1, q2⟩ := set3_at w1 (w.heap.size + 1) (.int .u8 3) (.int .i64 k) (.int .i64 q) _ _ _ r0 r1 r2
                      have hBU := below_set3 (W := w1) (R := w.heap.size + 1) (HBB.out.trans (hB2.mono (by omega))) (by omega) (.int .u8 3) (.int .i64 k) (.int .i64 q)
                      have HRES := Lib.hid ((M.brk_pair H1.out H2.out hkq hql (M.jn_nil HNIL.out) H3.out H4.out).trans (show (M.kindM t k q, k, q) = (3, k, q) from by unfold M.kindM; rw [if_pos HNIL.out]))
                      go_wp2_with fail
                      exact bodyPost_ret (v := .agg #[.int .u8 3, .int .i64 k, .int .i64 q]) (by simp [results, Try.results69, go_sem, q0, q1, q2]) rfl ⟨by rw [HRES.out]; rfl, hBU⟩
                    · have hl0 : 0 < (M.bnd t k q).length := List.length_pos_iff.2 hnil
                      have k1 : (((M.bnd t k q).length : Int) == 0) = false := by rw [beq_eq_false_iff_ne]; omega
                      have k2 : ((M.bnd t k q).length == 0) = false := by rw [beq_eq_false_iff_ne]; omega
                      have HNIL := Lib.hid hnil
                      have hls := HLS.out
                      have HC2 := Lib.hid fun W (hW : Below w1.heap.size w1 W) => least_any t g cc lc la (M.bnd t k q) W (HR2.out.below hW) h12 (hls.below hW) (fun x hx => (M.mem_bnd.1 hx).1) HBL.out
                      clear hl0 hnil hls
                      go_wp2_with fail
                      refine (HC2.out _ (Below.refl _ _)).mono ?_
                      rintro e w2 ⟨rfl, hB3⟩
                      have hB4 := below2 hB2 hB3
                      have HR3 := Lib.hid (HR2.out.below hB3)
                      have HJ := Lib.hid (show M.optI (M.lst t (M.bnd t k q)) = M.optI (M.jn t k q) from rfl)
                      rw [HJ.out]
                      clear hB3
                      cases hj : M.jn t k q with
                      | none =>
                        have HJN := Lib.hid hj
                        have k3 : decide ((-1 : Int) < 0) = true := by decide
                        clear hj
                        rw [show M.optI none = -1 from rfl]
                        obtain ⟨r0, r1, r2, g0, g1, g2⟩ := HZ.out.below hB4 (by omega)
                        obtain ⟨q0, q1, q2⟩ := set3_at w2 (w.heap.size + 1) (.int .u8 4) (.int .i64 k) (.int .i64 q) _ _ _ r0 r1 r2
                        have hBU := below_set3 (W := w2) (R := w.heap.size + 1) (HBB.out.trans (hB4.mono (by omega))) (by omega) (.int .u8 4) (.int .i64 k) (.int .i64 q)
                        have HRES := Lib.hid ((M.brk_pair H1.out H2.out hkq hql HJN.out H3.out H4.out).trans (show (M.kindM t k q, k, q) = (4, k, q) from by unfold M.kindM; rw [if_neg HNIL.out]))
                        go_wp2_with fail
                        exact bodyPost_ret (v := .agg #[.int .u8 4, .int .i64 k, .int .i64 q]) (by simp [results, Try.results69, go_sem, q0, q1, q2]) rfl ⟨by rw [HRES.out]; rfl, hBU⟩
                      | some c =>
                        have k3 : decide ((c : Int) < 0) = false := decide_eq_false (by omega)
                        have HN := Lib.hid (show ∀ b', k < b' → b' < q + 1 → M.jn t k b' ≠ none from fun b' h1 h2 => by
                          rcases Nat.lt_succ_iff_lt_or_eq.1 h2 with h | rfl
                          · exact H4.out b' h1 h
                          · rw [hj]; simp)
                        clear hj
                        rw [show M.optI (some c) = (c : Int) from rfl]
                        go_wp2_with fail
                        go_roundw
                        case rel => exact ⟨q + 1, by omega, by omega, by go_num, HN, HR3, hB4⟩
                        case measure => simp [intOf]; omega
                  · obtain rfl : q = t.elems.length := by omega
                    have HN := Lib.hid (show ∀ a', a' < k + 1 → ∀ b', a' < b' → b' < t.elems.length → M.jn t a' b' ≠ none from fun a' h1 b' h2 h3 => by
                      rcases Nat.lt_succ_iff_lt_or_eq.1 h1 with h | rfl
                      · exact H3.out a' h b' h2 h3
                      · exact H4.out b' h2 h3)
                    go_wp2_with fail
                    go_roundw
                    case rel => exact ⟨k + 1, by omega, by go_num, HN, HR, hB⟩
                    case measure => simp [intOf]; omega
              · obtain rfl : k = t.elems.length := by omega
                have HNB := Lib.hid (show M.noBrk t from ⟨H1.out, H2.out, fun a ha b hab hb => H3.out a ha b hab hb⟩)
                obtain ⟨x0, x1, x2, x3⟩ := HX.out.below hB
                obtain ⟨vb, vo, ev, hv⟩ := HT.out.ws.at (i := 0) (by have := HWL.out; omega)
                dsimp only at ev
                subst ev
                have HV := Lib.hid hv
                have hwl := HWL.out
                rw [hwl] at x3
                have v0 := cell_below (hv.at_ 0 (by omega)) hB
                rw [← getD_in t.wrong false 0 (by omega), Nat.add_zero] at v0
                have n3 : (0 : Int) < (t.elems.length : Int) := by omega
                clear hv
                cases h0 : t.wrong.getD 0 false with
                | true =>
                  rw [h0] at v0
                  have H0 := Lib.hid (show M.wr t 0 = true from h0)
                  clear h0
                  obtain ⟨r0, r1, r2, g0, g1, g2⟩ := HZ.out.below hB (by omega)
                  obtain ⟨q0, q1, q2⟩ := set3_at wr (w.heap.size + 1) (.int .u8 5) (.int .i64 0) (.int .i64 0) _ _ _ r0 r1 r2
                  have hBU := below_set3 (W := wr) (R := w.heap.size + 1) (HBB.out.trans (hB.mono (by omega))) (by omega) (.int .u8 5) (.int .i64 0) (.int .i64 0)
                  have HRES := Lib.hid (M.brk_zero HNB.out H0.out)
                  go_wp2_with fail
                  exact bodyPost_ret (v := .agg #[.int .u8 5, .int .i64 0, .int .i64 0]) (by simp [results, Try.results69, go_sem, q0, q1, q2]) rfl ⟨by rw [HRES.out]; rfl, hBU⟩
                | false =>
                  rw [h0] at v0
                  have H0 := Lib.hid (show M.wr t 0 = false from h0)
                  clear h0
                  go_wp2_with fail
                  clear x0 x1 x2 x3 v0
                  go_loopw [10] (fun i wr => ∃ k : Nat, k ≤ t.elems.length ∧ i = .int .i64 k ∧ Hid (∀ a', a' < k → ∀ b', b' < t.elems.length → M.wr t a' = true → M.leB t a' b' = true → M.wr t b' = true) ∧ Hid (RelAt wr t g) ∧ Below W0.heap.size W0 wr) (fun i _ => t.elems.length - (intOf i).toNat)
                  case atStart => exact ⟨0, by omega, rfl, Lib.hid (fun j hj => by omega), HR, hB⟩
                  case round =>
                    clear hB HR
                    rename World => wr
                    obtain ⟨k, hk, rfl, H5, HR, hB⟩ := hrel
                    by_cases hkl : k < t.elems.length
                    · have n1 : (k : Int) < (t.elems.length : Int) := by omega
                      have n2 : (0 : Int) ≤ (k : Int) := by omega
                      go_wp2_with fail
                      go_loopw [11] (fun i wr => ∃ q : Nat, q ≤ t.elems.length ∧ i = .int .i64 q ∧ Hid (∀ b', b' < q → M.wr t k = true → M.leB t k b' = true → M.wr t b' = true) ∧ Hid (RelAt wr t g) ∧ Below W0.heap.size W0 wr) (fun i _ => t.elems.length - (intOf i).toNat)
                      case atStart => exact ⟨0, by omega, rfl, Lib.hid (fun j h1 h2 => by omega), HR, hB⟩
                      case round =>
                        clear hB HR
                        rename World => wr
                        obtain ⟨q, hq, rfl, H6, HR, hB⟩ := hrel
                        obtain ⟨x0, x1, x2, x3⟩ := HX.out.below hB
                        dsimp only at x3
                        rw [HWL.out] at x3
                        by_cases hql : q < t.elems.length
                        · have m2 : (q : Int) < (t.elems.length : Int) := by omega
                          have m3 : (0 : Int) ≤ (q : Int) := by omega
                          have v1 := cell_below (HV.out.at_ k (by have := HWL.out; omega)) hB
                          rw [← getD_in t.wrong false k (by have := HWL.out; omega)] at v1
                          have v2 := cell_below (HV.out.at_ q (by have := HWL.out; omega)) hB
                          rw [← getD_in t.wrong false q (by have := HWL.out; omega)] at v2
                          obtain ⟨rb, ro, rc, r1, _, r3⟩ := HR.out.at_ k hkl
                          have r4 := r3 q hql
                          clear r3
                          have hnx : (M.wr t k = true → M.leB t k q = true → M.wr t q = true) → ∀ b', b' < q + 1 → M.wr t k = true → M.leB t k b' = true → M.wr t b' = true := fun h b' h1 => by
                            rcases Nat.lt_succ_iff_lt_or_eq.1 h1 with h' | rfl
                            · exact H6.out b' h'
                            · exact h
                          have HNX := Lib.hid hnx
                          clear hnx
                          cases hw1 : t.wrong.getD k false with
                          | false =>
                            rw [hw1] at v1
                            have HN := Lib.hid (HNX.out fun h => by unfold M.wr at h; rw [hw1] at h; cases h)
                            clear hw1
                            go_wp2_with fail
                            go_roundw
                            case rel => exact ⟨q + 1, by omega, by go_num, HN, HR, hB⟩
                            case measure => simp [intOf]; omega
                          | true =>
                            rw [hw1] at v1
                            have HW1 := Lib.hid (show M.wr t k = true from hw1)
                            cases hw2 : t.wrong.getD q false with
                            | true =>
                              rw [hw2] at v2
                              have HN := Lib.hid (HNX.out fun _ _ => hw2)
                              clear hw1 hw2
                              go_wp2_with fail
                              go_roundw
                              case rel => exact ⟨q + 1, by omega, by go_num, HN, HR, hB⟩
                              case measure => simp [intOf]; omega
                            | false =>
                              rw [hw2] at v2
                              have HW2 := Lib.hid (show M.wr t q = false from hw2)
                              cases hl : M.leB t k q with
                              | false =>
                                rw [hl] at r4
                                have HN := Lib.hid (HNX.out fun _ h => by rw [hl] at h; cases h)
                                clear hw1 hw2 hl
                                go_wp2_with fail
                                go_roundw
                                case rel => exact ⟨q + 1, by omega, by go_num, HN, HR, hB⟩
                                case measure => simp [intOf]; omega
                              | true =>
                                rw [hl] at r4
                                have HLL := Lib.hid hl
                                clear hw1 hw2 hl
                                obtain ⟨e0, e1, e2, g0, g1, g2⟩ := HZ.out.below hB (by omega)
                                obtain ⟨q0, q1, q2⟩ := set3_at wr (w.heap.size + 1) (.int .u8 5) (.int .i64 k) (.int .i64 q) _ _ _ e0 e1 e2
                                have hBU := below_set3 (W := wr) (R := w.heap.size + 1) (HBB.out.trans (hB.mono (by omega))) (by omega) (.int .u8 5) (.int .i64 k) (.int .i64 q)
                                have HRES := Lib.hid (M.brk_wrong HNB.out H0.out hkl hql HW1.out HW2.out HLL.out H5.out (fun b' h => H6.out b' h HW1.out))
                                go_wp2_with fail
                                exact bodyPost_ret (v := .agg #[.int .u8 5, .int .i64 k, .int .i64 q]) (by simp [results, Try.results69, go_sem, q0, q1, q2]) rfl ⟨by rw [HRES.out]; rfl, hBU⟩
                        · obtain rfl : q = t.elems.length := by omega
                          have HN := Lib.hid (show ∀ a', a' < k + 1 → ∀ b', b' < t.elems.length → M.wr t a' = true → M.leB t a' b' = true → M.wr t b' = true from fun a' h1 b' h2 => by
                            rcases Nat.lt_succ_iff_lt_or_eq.1 h1 with h | rfl
                            · exact H5.out a' h b' h2
                            · exact H6.out b' h2)
                          go_wp2_with fail
                          go_roundw
                          case rel => exact ⟨k + 1, by omega, by go_num, HN, HR, hB⟩
                          case measure => simp [intOf]; omega
                    · obtain rfl : k = t.elems.length := by omega
                      obtain ⟨r0, r1, r2, g0, g1, g2⟩ := HZ.out.below hB (by omega)
                      obtain ⟨q0, q1, q2⟩ := set3_at wr (w.heap.size + 1) (.int .u8 0) (.int .i64 0) (.int .i64 0) _ _ _ r0 r1 r2
                      have hBU := below_set3 (W := wr) (R := w.heap.size + 1) (HBB.out.trans (hB.mono (by omega))) (by omega) (.int .u8 0) (.int .i64 0) (.int .i64 0)
                      have HRES := Lib.hid (M.brk_ok HNB.out H0.out (fun a ha b hb => H5.out a ha b hb))
                      go_wp2_with fail
                      exact bodyPost_ret (v := .agg #[.int .u8 0, .int .i64 0, .int .i64 0]) (by simp [results, Try.results69, go_sem, q0, q1, q2]) rfl ⟨by rw [HRES.out]; rfl, hBU⟩
end Go.Proofs.Ythacjdlohmkpoaa
