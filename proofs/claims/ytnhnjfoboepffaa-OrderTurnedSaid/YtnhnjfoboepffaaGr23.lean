/- Texts of one's own, joined: OrdV, OrdW. -/
import Derived.Test.YtnhnjfoboepffaaGr21
import Derived.Test.YtnhnjfoboepffaaGr17
import Derived.Test.YtnhnjfoboepffaaGr1
namespace Go.Proofs.Ytnhnjfoboepffaa
open Go.RowKit

set_option maxHeartbeats 2000000 in
set_option maxRecDepth 100000 in
theorem isBelow_any (t : M.Tb) (p : Tp) (a b : Nat) (w : World) (ht : TbIn w t p) (hf : M.form t) (ha : a < t.elems.length) (hb : b < t.elems.length) :
    Calls Try.prog 102 #[tbV t p, .int .i64 a, .int .i64 b] w fun e w' => e = .returned (.bool (M.leB t a b)) ∧ Below w.heap.size w w' := by
  have HC := Lib.hid (steps_any t p a b (w.alloc (.cells (tbA t p) 26)) (ht.below (below1 _ _)) hf ha hb)
  have HL := Lib.hid (M.leB_or hf ha (b := b))
  obtain ⟨c0, c1, c2, c3⟩ := tbBox (t := t) (p := p) (box_new w (tbA t p) 26)
  clear ht
  by_cases hab : a = b
  · have k1 : ((a : Int) == (b : Int)) = true := by rw [hab]; exact beq_self_eq_true _
    have HR := Lib.hid (show M.leB t a b = true from by rw [HL.out, hab]; simp)
    clear hab
    go_enter Try.func102, Try.ntmps102
    go_wp2_with fail
    go_ret
    exact ⟨ret_bool HR.out.symm, below1 _ _⟩
  · have k1 : ((a : Int) == (b : Int)) = false := by rw [beq_eq_false_iff_ne]; omega
    have HR := Lib.hid (show M.leB t a b = M.stB t a b from by rw [HL.out, decide_eq_false hab]; rfl)
    clear hab
    go_enter Try.func102, Try.ntmps102
    go_wp2_with fail
    refine HC.out.mono ?_
    rintro e w1 ⟨rfl, hB1⟩
    have hB := below2 (below1 w (.cells (tbA t p) 26)) hB1
    go_wp2_with fail
    go_ret
    exact ⟨ret_bool HR.out.symm, hB⟩

set_option maxHeartbeats 1000000 in
set_option maxRecDepth 100000 in
theorem isElem_any (t : M.Tb) (p : Tp) (a : Int) (w : World) (hn : t.elems.length ≤ 1000000) :
    Calls Try.prog 43 #[tbV t p, .int .i64 a] w fun e w' => e = .returned (.bool (M.inB t.elems.length a)) ∧ Below w.heap.size w w' := by
  obtain ⟨c0, c1, c2, c3⟩ := tbBox (t := t) (p := p) (box_new w (tbA t p) 26)
  have w1' : IntKind.i64.wrap ((t.elems.length : Int) - 1) = (t.elems.length : Int) - 1 := IntWalk.i64_in _ (by omega)
  have HC := Lib.hid fun W => in_any a 0 ((t.elems.length : Int) - 1) W
  have hd : (decide ((0 : Int) ≤ a) && decide (a ≤ (t.elems.length : Int) - 1)) = M.inB t.elems.length a := by
    unfold M.inB
    rw [Bool.eq_iff_iff]
    simp only [Bool.and_eq_true, decide_eq_true_eq]
    omega
  have HD := Lib.hid hd
  clear hd
  go_enter Try.func43, Try.ntmps43
  go_wp2_with fail
  refine (HC.out _).mono ?_
  rintro e w1 ⟨rfl, rfl⟩
  rw [HD.out]
  go_wp2_with fail
  go_ret
  exact ⟨rfl, below1 _ _⟩

namespace M
def relRow (t : Tb) (a k : Nat) : List Bool := (List.range k).map (leB t a)
def relTo (t : Tb) (k : Nat) : List (List Bool) := (List.range k).map fun a => relRow t a t.elems.length
theorem relRow_len (t : Tb) (a k : Nat) : (relRow t a k).length = k := by simp [relRow]
theorem relTo_len (t : Tb) (k : Nat) : (relTo t k).length = k := by simp [relTo]
theorem relRow_next (t : Tb) (a k : Nat) : relRow t a (k + 1) = relRow t a k ++ [leB t a k] := by simp [relRow, List.range_succ]
theorem relTo_next (t : Tb) (k : Nat) : relTo t (k + 1) = relTo t k ++ [relRow t k t.elems.length] := by simp [relTo, List.range_succ]
end M
abbrev boolCells (l : List Bool) : List Value := l.map Value.bool
theorem boolsInfo : (Try.prog.info? 24).map (fun i => (i.zero, i.size, i.bytes)) = some (some (.slice none 0 0), 1, 24) := by kernel_rfl
/-- The relation of a table as it lies in memory. -/
structure RelAt (w : World) (t : M.Tb) (g : Nat) : Prop where
  lt : g < w.heap.size
  at_ : ∀ a, a < t.elems.length → ∃ b off c, w.cell? ⟨g, a, none⟩ = some (.slice (some ⟨b, off, none⟩) t.elems.length c) ∧ b < w.heap.size ∧ ∀ j, j < t.elems.length → w.cell? ⟨b, off + j, none⟩ = some (.bool (M.leB t a j))
theorem RelAt.below {w w' : World} {t : M.Tb} {g : Nat} (h : RelAt w t g) (hB : Below w.heap.size w w') : RelAt w' t g :=
  ⟨Nat.lt_of_lt_of_le h.lt hB.size, fun a ha => by
    obtain ⟨b, off, c, h1, h2, h3⟩ := h.at_ a ha
    exact ⟨b, off, c, cell_below h1 hB, Nat.lt_of_lt_of_le h2 hB.size, fun j hj => cell_below (h3 j hj) hB⟩⟩
/-- What Rel comes to. -/
def RelPost (t : M.Tb) (w : World) (e : Ending) (w' : World) : Prop := ∃ g c, e = .returned (.slice (some ⟨g, 0, none⟩) t.elems.length c) ∧ t.elems.length ≤ c ∧ RelAt w' t g ∧ Below w.heap.size w w'
/-- The lists of a relation while it is laid. -/
def RelOwn (w : World) (t : M.Tb) (base : Nat) (v : Value) (k : Nat) : Prop := NestOwn Value.bool w base 24 v (M.relTo t k)
theorem own_flags {w : World} {base : Nat} {v : Value} {n : Nat} {l : List Bool} (hl : l.length = n) (h : w.ownsRow base 4 1 v n (boolCells l)) (hn : 0 < n) : ∃ b c, v = .slice (some ⟨b, 0, none⟩) n c ∧ n ≤ c ∧ base ≤ b ∧ CelAt Value.bool w b 0 l := by
  subst hl
  rcases h.2 with ⟨rfl, h0⟩ | ⟨g, cap, cur, rfl, hb, hg, hn, hm, hs, ht⟩
  · omega
  · refine ⟨g, cap, rfl, hn, hb, ?_, fun i hi => ?_⟩
    · rcases Nat.lt_or_ge g w.heap.size with h' | h'
      · exact h'
      · simp [Array.getElem?_eq_none h'] at hg
    · have hc : (boolCells l)[i]? = some (.bool l[i]) := by simp [hi]
      simp only [World.cell?, hg, Nat.zero_add]
      rw [← ht, List.getElem?_take, if_pos (by omega)] at hc
      simpa using hc
theorem relOwn_lies {w : World} {t : M.Tb} {base : Nat} {v : Value} (h : RelOwn w t base v t.elems.length) (hn : 1 ≤ t.elems.length) : ∃ g c, v = .slice (some ⟨g, 0, none⟩) t.elems.length c ∧ t.elems.length ≤ c ∧ RelAt w t g := by
  rcases NestOwn.lies h with ⟨_, h0⟩ | ⟨g, c, rfl, hc, _, hat⟩
  · have := M.relTo_len t t.elems.length
    rw [h0] at this; simp at this; omega
  · rw [M.relTo_len] at hc ⊢
    refine ⟨g, c, rfl, hc, hat.lt, fun a ha => ?_⟩
    obtain ⟨ad, c2, q1, _, q3, q4⟩ := hat.at_ a (by rw [M.relTo_len]; exact ha)
    have e : (M.relTo t t.elems.length)[a]'(by rw [M.relTo_len]; exact ha) = M.relRow t a t.elems.length := by simp [M.relTo]
    rw [e] at q1 q3 q4
    rw [M.relRow_len, Nat.zero_add] at q1
    rcases q4 with q | ⟨b, off, rfl, q⟩
    · have := M.relRow_len t a t.elems.length
      rw [q] at this; simp at this; omega
    · refine ⟨b, off, c2, q1, q.lt, fun j hj => ?_⟩
      have h := q.at_ j (by rw [M.relRow_len]; exact hj)
      rw [h]; simp [M.relRow]

set_option maxHeartbeats 4000000 in
set_option maxRecDepth 100000 in
theorem rel_any (t : M.Tb) (p : Tp) (w : World) (ht : TbIn w t p) (hf : M.form t) : Calls Try.prog 84 #[tbV t p] w (RelPost t w) := by
  obtain ⟨i0, hi, hz0, hz1, hz2⟩ := info_parts boolInfo
  obtain ⟨i1, hi', hz0', hz1', hz2'⟩ := info_parts boolsInfo
  have HI0 := Lib.hid hi
  have HZ0 := Lib.hid hz0
  have HZ1 := Lib.hid hz1
  have HZ2 := Lib.hid hz2
  have HI1 := Lib.hid hi'
  have HY0 := Lib.hid hz0'
  have HY1 := Lib.hid hz1'
  have HY2 := Lib.hid hz2'
  clear hi hz0 hz1 hz2 hi' hz0' hz1' hz2'
  have h12 := hf.twelve
  have hone := hf.one
  have HF := Lib.hid hf
  have HT := Lib.hid ht
  have HX := Lib.hid (tbBox (t := t) (p := p) (box_new w (tbA t p) 26))
  obtain ⟨c0, c1, c2, c3⟩ := HX.out
  clear ht hf c0 c2 c3
  go_enter Try.func84, Try.ntmps84
  go_wp2_with fail
  clear c1
  go_loopw [3, 4] (fun v i wr => ∃ k : Nat, k ≤ t.elems.length ∧ i = .int .i64 k ∧ Hid (RelOwn wr t (w.heap.size + 1) v k) ∧ Below (w.heap.size + 1) (w.alloc (.cells (tbA t p) 26)) wr) (fun _ i _ => t.elems.length - (intOf i).toNat)
  case atStart => exact ⟨0, by omega, rfl, Lib.hid (NestOwn.nil _ _ _ _), Below.refl _ _⟩
  case round =>
    rename_i wr
    obtain ⟨k, hk, rfl, HO, hB⟩ := hrel
    have hBx : Below (w.alloc (.cells (tbA t p) 26)).heap.size (w.alloc (.cells (tbA t p) 26)) wr := by rw [World.size_alloc]; exact hB
    have x1 := cell_below HX.out.c1 hBx
    have hwr : w.heap.size + 1 ≤ wr.heap.size := by have := hB.size; simpa using this
    obtain ⟨va, vc, hv⟩ := NestOwn.slice HO.out
    rw [M.relTo_len] at hv
    subst hv
    by_cases hkl : k < t.elems.length
    · have n1 : (k : Int) < (t.elems.length : Int) := by omega
      have n2 : (0 : Int) ≤ (k : Int) := by omega
      go_wp2_with fail
      go_loopw [5, 6] (fun u j wo => ∃ q : Nat, q ≤ t.elems.length ∧ j = .int .i64 q ∧ Hid (wo.ownsRow wr.heap.size 4 1 u q (boolCells (M.relRow t k q))) ∧ Below wr.heap.size wr wo) (fun _ j _ => t.elems.length - (intOf j).toNat)
      case atStart => exact ⟨0, by omega, rfl, Lib.hid ⟨rfl, Or.inl ⟨rfl, rfl⟩⟩, Below.refl _ _⟩
      case round =>
        clear x1
        rename World => wo
        obtain ⟨q, hq, rfl, HU, hBo⟩ := hrel
        obtain ⟨ua, uc, hu⟩ := own_slice HU.out
        subst hu
        have hBt := below2 hBx hBo
        have HX2 := Lib.hid (HX.out.below hBt)
        obtain ⟨y0, y1, y2, y3⟩ := HX2.out
        have hwo := hBo.size
        by_cases hql : q < t.elems.length
        · have m1 : (q : Int) < (t.elems.length : Int) := by omega
          have HC := Lib.hid (isBelow_any t p k q wo (HT.out.below (below2 (below1 _ _) hBt)) HF.out hkl hql)
          have HN := Lib.hid (M.relRow_next t k q)
          go_wp2_with fail
          refine HC.out.mono ?_
          rintro e w1 ⟨rfl, hB1⟩
          have hw1 := hB1.size
          have HU1 := Lib.hid (own_below HU.out hB1)
          have hBo1 := hBo.trans (hB1.mono hwo)
          have hi := HI0.out
          have hz0 := HZ0.out
          have hz1 := HZ1.out
          have hz2 := HZ2.out
          go_wp2_with (at_builtin; refine wpList_append_own _ rfl _ _ 24 rfl wr.heap.size 4 i0 (.bool false) 1 1 Try.underlying24 hi hz0 hz1 hz2 rfl (by decide) _ _ _ rfl (HU1.out.alloc _) ⟨w1.heap.size, 0, none⟩ 1 1 [.bool (M.leB t k q)] rfl rfl ?c1 ?c2 ?c3 ?c4 ?c5 ?_)
          case c1 =>
            intro j u hj
            match j, hj with
            | 0, hj => simp at hj; subst hj; simp [Addr.add]
          case c2 => intro u hu; simp at hu; subst hu; rfl
          case c3 => unfold maxLen; omega
          case c4 => omega
          case c5 => simp; omega
          intro v' w3 hown3 hgrow _
          have hB3 : Below wr.heap.size wr w3 := (hBo1.alloc (by omega) _).grown hgrow (by simp; omega) (fun j hj => (HU1.out.lt j hj).1)
          have R1 := Lib.hid hown3
          clear hown3 hgrow hi hz0 hz1 hz2
          obtain ⟨bv, bc, rfl⟩ := own_slice R1.out
          go_wp2_with fail
          go_roundw
          case rel =>
            refine ⟨q + 1, by omega, by go_num, Lib.hid ?_, hB3⟩
            have := R1.out
            rw [HN.out, show boolCells (M.relRow t k q ++ [M.leB t k q]) = boolCells (M.relRow t k q) ++ [.bool (M.leB t k q)] from by simp]
            exact this
          case measure => simp [intOf]; omega
        · obtain rfl : q = t.elems.length := by omega
          have m1 : decide ((t.elems.length : Int) < (t.elems.length : Int)) = false := decide_eq_false (by omega)
          obtain ⟨rb, rc, e, hrc, hrb, hcel⟩ := own_flags (M.relRow_len t k t.elems.length) HU.out (by omega)
          cases e
          have HCEL := Lib.hid (hcel.below (below1 wo (.cells #[.slice (some ⟨rb, 0, none⟩) t.elems.length uc] 24)))
          have HOW := Lib.hid (show RelOwn (wo.alloc (.cells #[.slice (some ⟨rb, 0, none⟩) t.elems.length uc] 24)) t (w.heap.size + 1) (.slice va k vc) k from NestOwn.below (NestOwn.below HO.out hBo) (below1 _ _))
          have hne : some rb ≠ (Value.slice va k vc).ownBlock := by
            intro e
            obtain ⟨vals, h1, _⟩ := HO.out
            have := (h1.lt rb e.symm).2
            omega
          have HNE := Lib.hid hne
          have HKL := Lib.hid (M.relTo_len t k)
          have HN := Lib.hid (M.relTo_next t k)
          have HLR := Lib.hid (M.relRow_len t k t.elems.length)
          have hi := HI1.out
          have hz0 := HY0.out
          have hz1 := HY1.out
          have hz2 := HY2.out
          have hBv : Below (w.heap.size + 1) (w.alloc (.cells (tbA t p) 26)) (wo.alloc (.cells #[.slice (some ⟨rb, 0, none⟩) t.elems.length uc] 24)) := (hB.trans (hBo.mono hwr)).alloc (by omega) _
          clear hne hcel
          go_wp2_with (at_builtin; refine wpList_append_nest (f := Value.bool) _ rfl _ _ 114 rfl 24 i1 Try.underlying114 hi hz0 hz1 hz2 (w.heap.size + 1) (.slice va k vc) (M.relTo t k) rfl HOW.out ?c1 ⟨wo.heap.size, 0, none⟩ 1 (some ⟨rb, 0, none⟩) (M.relRow t k t.elems.length) uc rfl ?c2 ?c3 ?c4 ?c5 ?c6 ?_)
          case c1 => simp; omega
          case c2 =>
            show World.cell? _ ⟨wo.heap.size, 0, none⟩ = _
            rw [World.cell?_alloc_at _ _ _ _ rfl, HLR.out]; rfl
          case c3 => rw [HKL.out]; omega
          case c4 => intro h; cases h
          case c5 => rw [HLR.out]; exact hrc
          case c6 => exact Or.inr ⟨rb, 0, rfl, HNE.out, HCEL.out⟩
          intro g' c' w3 hn3 hb3
          rw [HKL.out] at hn3 ⊢
          have HN3 := Lib.hid hn3
          have hBf := hBv.trans hb3
          clear hn3 hb3 hi hz0 hz1 hz2 hBv
          go_wp2_with fail
          go_roundw
          case rel =>
            refine ⟨k + 1, by omega, by go_num, Lib.hid ?_, hBf⟩
            unfold RelOwn
            rw [HN.out]
            exact HN3.out
          case measure => simp [intOf]; omega
    · obtain rfl : k = t.elems.length := by omega
      have m1 : decide ((t.elems.length : Int) < (t.elems.length : Int)) = false := decide_eq_false (by omega)
      have HR := Lib.hid (relOwn_lies HO.out hone)
      have hBf := below2 (below1 w (.cells (tbA t p) 26)) hBx
      go_wp2_with fail
      go_ret
      obtain ⟨g, c, e, h1, h2⟩ := HR.out
      exact ⟨g, c, congrArg Ending.returned e, h1, h2, hBf⟩
end Go.Proofs.Ytnhnjfoboepffaa

namespace Go.Proofs.Ytnhnjfoboepffaa
open Go.RowKit

namespace M
/-- The first ones of the elements above two. -/
def bndTo (t : Tb) (a b k : Nat) : List Nat := (List.range k).filter fun c => leB t a c && leB t b c
theorem bndTo_yes (t : Tb) (a b k : Nat) (h : (leB t a k && leB t b k) = true) : bndTo t a b (k + 1) = bndTo t a b k ++ [k] := by unfold bndTo; rw [List.range_succ, List.filter_append]; simp [h]
theorem bndTo_no (t : Tb) (a b k : Nat) (h : (leB t a k && leB t b k) = false) : bndTo t a b (k + 1) = bndTo t a b k := by unfold bndTo; rw [List.range_succ, List.filter_append]; simp [h]
theorem bndTo_len (t : Tb) (a b k : Nat) : (bndTo t a b k).length ≤ k := by
  unfold bndTo
  exact Nat.le_trans (List.length_filter_le _ _) (by rw [List.length_range]; exact Nat.le_refl _)
theorem bndTo_all (t : Tb) (a b : Nat) : bndTo t a b t.elems.length = bnd t a b := rfl
end M
def natCs (l : List Nat) : List Value := intCells (nats l)
theorem natCs_snoc (l : List Nat) (k : Nat) : natCs (l ++ [k]) = natCs l ++ [.int .i64 k] := by simp [natCs]

set_option maxHeartbeats 4000000 in
set_option maxRecDepth 100000 in
theorem bounds_any (t : M.Tb) (g c a b : Nat) (w : World) (hr : RelAt w t g) (hn : t.elems.length ≤ 12) (ha : a < t.elems.length) (hb : b < t.elems.length) :
    Calls Try.prog 85 #[.slice (some ⟨g, 0, none⟩) t.elems.length c, .int .i64 a, .int .i64 b] w (IntsPost (nats (M.bnd t a b)) w) := by
  obtain ⟨i0, hi, hz0, hz1, hz2⟩ := info_parts intInfo
  have HI0 := Lib.hid hi
  have HZ0 := Lib.hid hz0
  have HZ1 := Lib.hid hz1
  have HZ2 := Lib.hid hz2
  clear hi hz0 hz1 hz2
  have HR := Lib.hid hr
  obtain ⟨ab, ao, ac, p1, p2, p3⟩ := hr.at_ a ha
  obtain ⟨bb, bo, bc, q1, q2, q3⟩ := hr.at_ b hb
  have P3 := Lib.hid p3
  have Q3 := Lib.hid q3
  have n1 : (a : Int) < (t.elems.length : Int) := by omega
  have n2 : (0 : Int) ≤ (a : Int) := by omega
  have n3 : (b : Int) < (t.elems.length : Int) := by omega
  have n4 : (0 : Int) ≤ (b : Int) := by omega
  clear hr p3 q3
  have P1 := Lib.hid p1
  have Q1 := Lib.hid q1
  clear p1 q1
  go_enter Try.func85, Try.ntmps85
  go_wp2_with fail
  go_loopw [7, 8] (fun v i wr => ∃ k : Nat, k ≤ t.elems.length ∧ i = .int .i64 k ∧ Hid (wr.ownsRow w.heap.size 3 1 v (M.bndTo t a b k).length (natCs (M.bndTo t a b k))) ∧ Below w.heap.size w wr) (fun _ i _ => t.elems.length - (intOf i).toNat)
  case atStart => exact ⟨0, by omega, rfl, Lib.hid ⟨rfl, Or.inl ⟨rfl, rfl⟩⟩, Below.refl _ _⟩
  case round =>
    rename_i wr
    obtain ⟨k, hk, rfl, HO, hB⟩ := hrel
    obtain ⟨av, ac', rfl⟩ := own_slice HO.out
    by_cases hkl : k < t.elems.length
    · have m1 : (k : Int) < (t.elems.length : Int) := by omega
      have m2 : (0 : Int) ≤ (k : Int) := by omega
      have r1 := cell_below P1.out hB
      have r2 := cell_below (P3.out k hkl) hB
      have r3 := cell_below Q1.out hB
      have r4 := cell_below (Q3.out k hkl) hB
      have hle := M.bndTo_len t a b k
      have hz := hB.size
      cases hA : M.leB t a k with
      | false =>
        rw [hA] at r2
        have HN := Lib.hid (M.bndTo_no t a b k (by rw [hA]; rfl))
        clear hA
        go_wp2_with fail
        go_roundw
        case rel => exact ⟨k + 1, by omega, by go_num, Lib.hid (by rw [HN.out]; exact HO.out), hB⟩
        case measure => simp [intOf]; omega
      | true =>
        rw [hA] at r2
        cases hBb : M.leB t b k with
        | false =>
          rw [hBb] at r4
          have HN := Lib.hid (M.bndTo_no t a b k (by rw [hA, hBb]; rfl))
          clear hA hBb
          go_wp2_with fail
          go_roundw
          case rel => exact ⟨k + 1, by omega, by go_num, Lib.hid (by rw [HN.out]; exact HO.out), hB⟩
          case measure => simp [intOf]; omega
        | true =>
          rw [hBb] at r4
          have HN := Lib.hid (M.bndTo_yes t a b k (by rw [hA, hBb]; rfl))
          clear hA hBb
          have hi := HI0.out
          have hz0 := HZ0.out
          have hz1 := HZ1.out
          have hz2 := HZ2.out
          go_wp2_with (at_builtin; refine wpList_append_own _ rfl _ _ 37 rfl w.heap.size 3 i0 (.int .i64 0) 1 8 Try.underlying37 hi hz0 hz1 hz2 rfl (by decide) _ _ _ rfl (HO.out.alloc _) ⟨wr.heap.size, 0, none⟩ 1 1 [.int .i64 k] rfl rfl ?c1 ?c2 ?c3 ?c4 ?c5 ?_)
          case c1 =>
            intro j u hj
            match j, hj with
            | 0, hj => simp at hj; subst hj; simp [Addr.add]
          case c2 => intro u hu; simp at hu; subst hu; rfl
          case c3 => unfold maxLen; omega
          case c4 => omega
          case c5 => simp; omega
          intro v' w3 hown3 hgrow _
          have hB3 : Below w.heap.size w w3 := (hB.alloc hz _).grown hgrow (by simp; omega) (fun j hj => (HO.out.lt j hj).1)
          have R1 := Lib.hid hown3
          clear hown3 hgrow hi hz0 hz1 hz2
          obtain ⟨bv, bc', rfl⟩ := own_slice R1.out
          go_wp2_with fail
          go_roundw
          case rel =>
            refine ⟨k + 1, by omega, by go_num, Lib.hid ?_, hB3⟩
            rw [HN.out, List.length_append, natCs_snoc]
            exact R1.out
          case measure => simp [intOf]; omega
    · obtain rfl : k = t.elems.length := by omega
      have m1 : decide ((t.elems.length : Int) < (t.elems.length : Int)) = false := decide_eq_false (by omega)
      have ho := HO.out
      rw [M.bndTo_all, ← nats_len (M.bnd t a b)] at ho
      unfold natCs at ho
      obtain ⟨a', c', e, h1, h2, h3⟩ := own_int ho
      have e2 : Ending.returned (.slice av (M.bndTo t a b t.elems.length).length ac') = Ending.returned (.slice a' (nats (M.bnd t a b)).length c') := congrArg Ending.returned (by rw [← e, nats_len, M.bndTo_all])
      have HE := Lib.hid e2
      have HA := Lib.hid h3
      have H1 := Lib.hid h1
      have H2 := Lib.hid h2
      clear h1 h2 h3 ho e e2
      go_wp2_with fail
      go_ret
      exact ⟨_, _, HE.out, H1.out, H2.out, HA.out, hB⟩

namespace M
def optI : Option Nat → Int
  | some x => x
  | none => -1
theorem lst_stop {t : Tb} {L : List Nat} {k : Nat} (hk : k < L.length) (h : L.all (leB t L[k]) = true) (hb : ∀ j, (hj : j < L.length) → j < k → L.all (leB t L[j]) = false) : lst t L = some L[k] := by
  unfold lst
  rw [List.find?_eq_some_iff_getElem]
  exact ⟨h, k, hk, rfl, fun j hj => by
    have := hb j (by omega) hj
    show (!L.all (leB t L[j])) = true
    rw [this]; rfl⟩
theorem lst_all {t : Tb} {L : List Nat} (hb : ∀ j, (hj : j < L.length) → L.all (leB t L[j]) = false) : lst t L = none := by
  unfold lst
  rw [List.find?_eq_none]
  intro x hx
  obtain ⟨j, hj, rfl⟩ := List.getElem_of_mem hx
  have := hb j hj
  show ¬ L.all (leB t L[j]) = true
  rw [this]; simp
theorem all_next {t : Tb} {L : List Nat} {x q : Nat} (hq : q < L.length) : (L.take (q + 1)).all (leB t x) = ((L.take q).all (leB t x) && leB t x L[q]) := by
  rw [List.take_succ_eq_append_getElem hq, List.all_append]; simp
end M
theorem nats_at (L : List Nat) (i : Nat) (h : i < L.length) : (nats L)[i]'(by rw [nats_len]; exact h) = (L[i] : Int) := by simp

set_option maxHeartbeats 4000000 in
set_option maxRecDepth 100000 in
theorem least_any (t : M.Tb) (g c lc : Nat) (la : Option Addr) (L : List Nat) (w : World) (hr : RelAt w t g) (_hn : t.elems.length ≤ 12) (hl : IntSl w la (nats L)) (hb : ∀ x, x ∈ L → x < t.elems.length) (hlen : L.length ≤ 12) :
    Calls Try.prog 86 #[.slice (some ⟨g, 0, none⟩) t.elems.length c, .slice la L.length lc] w fun e w' => e = .returned (.int .i64 (M.optI (M.lst t L))) ∧ Below w.heap.size w w' := by
  have HR := Lib.hid hr
  have HL := Lib.hid hl
  have HBD := Lib.hid hb
  clear hr hl hb
  go_enter Try.func86, Try.ntmps86
  go_wp2_with fail
  go_loopw [5] (fun i wr => ∃ k : Nat, k ≤ L.length ∧ i = .int .i64 k ∧ Hid (∀ j, (hj : j < L.length) → j < k → L.all (M.leB t L[j]) = false) ∧ Below w.heap.size w wr) (fun i _ => L.length - (intOf i).toNat)
  case atStart => exact ⟨0, by omega, rfl, Lib.hid (fun j _ hj => by omega), Below.refl _ _⟩
  case round =>
    rename_i wr
    obtain ⟨k, hk, rfl, HA, hB⟩ := hrel
    by_cases hkl : k < L.length
    · obtain ⟨lb, lo, rfl, hlat⟩ := HL.out.at (i := k) (by rw [nats_len]; exact hkl)
      have HLAT := Lib.hid hlat
      have n1 : (k : Int) < (L.length : Int) := by omega
      have n2 : (0 : Int) ≤ (k : Int) := by omega
      have hx := HBD.out L[k] (List.getElem_mem hkl)
      have hyes := fun h => M.lst_stop (t := t) hkl h HA.out
      have hnx : L.all (M.leB t L[k]) = false → ∀ j, (hj : j < L.length) → j < k + 1 → L.all (M.leB t L[j]) = false := fun hn j hj hjk => by
        rcases Nat.lt_succ_iff_lt_or_eq.1 hjk with h | rfl
        · exact HA.out j hj h
        · exact hn
      have p0 := hlat.at_ k (by rw [nats_len]; exact hkl)
      rw [nats_at L k hkl] at p0
      obtain ⟨x, hxe⟩ : ∃ x, L[k] = x := ⟨_, rfl⟩
      rw [hxe] at hx hyes hnx p0
      have HP0 := Lib.hid p0
      obtain ⟨xb, xo, xc, r1, r2, r3⟩ := HR.out.at_ x hx
      have HR1 := Lib.hid r1
      have HR3 := Lib.hid r3
      have HYES := Lib.hid hyes
      have HNX := Lib.hid hnx
      have hxn : (x : Int) < (t.elems.length : Int) := by omega
      have hx0 : (0 : Int) ≤ (x : Int) := by omega
      clear hxe hyes hnx r1 r3 hlat p0
      go_wp2_with fail
      go_loopw [6, 7] (fun al j wo => ∃ q : Nat, q ≤ L.length ∧ j = .int .i64 q ∧ al = .bool ((L.take q).all (M.leB t x)) ∧ Below w.heap.size w wo) (fun _ j _ => L.length - (intOf j).toNat)
      case atStart => exact ⟨0, by omega, rfl, by simp, hB⟩
      case round =>
        clear hB
        rename World => wo
        obtain ⟨q, hq, rfl, rfl, hB⟩ := hrel
        by_cases hql : q < L.length
        · have m1 : (q : Int) < (L.length : Int) := by omega
          have m2 : (0 : Int) ≤ (q : Int) := by omega
          have hyn := HBD.out L[q] (List.getElem_mem hql)
          have s0 := HLAT.out.at_ q (by rw [nats_len]; exact hql)
          rw [nats_at L q hql] at s0
          have hal := M.all_next (t := t) (x := x) hql
          obtain ⟨y, hy⟩ : ∃ y, L[q] = y := ⟨_, rfl⟩
          rw [hy] at hyn s0 hal
          have HAL := Lib.hid hal
          have m3 : (y : Int) < (t.elems.length : Int) := by omega
          have m4 : (0 : Int) ≤ (y : Int) := by omega
          have s1 := cell_below s0 hB
          have s2 := cell_below HP0.out hB
          have s3 := cell_below HR1.out hB
          have s4 := cell_below (HR3.out y hyn) hB
          clear hal hy s0
          cases hA : (L.take q).all (M.leB t x) with
          | false =>
            have HN := Lib.hid (show (L.take (q + 1)).all (M.leB t x) = false from by rw [HAL.out, hA]; rfl)
            clear hA
            go_wp2_with fail
            go_quiet (fail)
            go_wp2_with fail
            exact ⟨⟨q + 1, by omega, by simp, by rw [HN.out], belowN hB _⟩, by simp [intOf]; omega⟩
          | true =>
            have HN := Lib.hid (show (L.take (q + 1)).all (M.leB t x) = M.leB t x y from by rw [HAL.out, hA]; rfl)
            clear hA
            go_wp2_with fail
            go_quiet (fail)
            go_wp2_with fail
            exact ⟨⟨q + 1, by omega, by simp, by rw [HN.out], belowN hB _⟩, by simp [intOf]; omega⟩
        · obtain rfl : q = L.length := by omega
          have m1 : decide ((L.length : Int) < (L.length : Int)) = false := decide_eq_false (by omega)
          rw [List.take_length]
          have s2 := cell_below HP0.out hB
          cases hA : L.all (M.leB t x) with
          | true =>
            have HY := Lib.hid (HYES.out hA)
            clear hA
            go_wp2_with fail
            go_ret
            exact ⟨ret_int (by rw [HY.out]; rfl), hB⟩
          | false =>
            have HN := Lib.hid (HNX.out hA)
            clear hA
            go_wp2_with fail
            go_roundw
            case rel => exact ⟨k + 1, by omega, by go_num, HN, hB⟩
            case measure => simp [intOf]; omega
    · obtain rfl : k = L.length := by omega
      have m1 : decide ((L.length : Int) < (L.length : Int)) = false := decide_eq_false (by omega)
      have HY := Lib.hid (M.lst_all (t := t) (L := L) (fun j hj => HA.out j hj hj))
      go_wp2_with fail
      go_ret
      exact ⟨ret_int (by rw [HY.out]; rfl), hB⟩
end Go.Proofs.Ytnhnjfoboepffaa
