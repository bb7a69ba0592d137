/- Texts of one's own, joined: OrdDf. -/
import Derived.Test.YtnhnjfoboepffaaGreatGr43
import Derived.Test.YtnhnjfoboepffaaGreatGr2
namespace Go.Proofs.YtnhnjfoboepffaaGreat
open Go.RowKit

/-- A result that is a list of numbers in a new block. -/
def IntsPostF (l : List Int) (w : World) (e : Ending) (w' : World) : Prop := ∃ a c, e = .returned (.slice a l.length c) ∧ (a = none → c = 0) ∧ l.length ≤ c ∧ IntSl w' a l ∧ (∀ b off, a = some ⟨b, off, none⟩ → w.heap.size ≤ b) ∧ Below w.heap.size w w'
theorem own_intF {w : World} {base : Nat} {v : Value} {l : List Int} (h : w.ownsRow base 3 1 v l.length (intCells l)) : ∃ a c, v = .slice a l.length c ∧ (a = none → c = 0) ∧ l.length ≤ c ∧ IntSl w a l ∧ ∀ b off, a = some ⟨b, off, none⟩ → base ≤ b := by
  obtain ⟨a, c, e, h1, h2, h3⟩ := own_int h
  refine ⟨a, c, e, h1, h2, h3, fun b off ea => ?_⟩
  exact (own_lt h (g := b) (by rw [e, ea]; rfl)).1

set_option maxHeartbeats 2000000 in
set_option maxRecDepth 100000 in
theorem listF_any (m : Nat) (w : World) (hm : m < 65536) : Calls Tryz.prog 26 #[.int .u16 m] w (IntsPostF (M.listN m 12) w) := by
  obtain ⟨i0, hi, hz0, hz1, hz2⟩ := info_parts intInfo
  have HI0 := Lib.hid hi
  have HZ0 := Lib.hid hz0
  have HZ1 := Lib.hid hz1
  have HZ2 := Lib.hid hz2
  clear hi hz0 hz1 hz2
  have HH := Lib.hid fun a W (h : a < 16) => has_any m a W hm h
  go_enter Tryz.func26, Tryz.ntmps26
  go_wp2_with fail
  go_loopw [3, 5] (fun v i wr => ∃ k : Nat, k ≤ 12 ∧ i = .int .i64 k ∧ wr.ownsRow w.heap.size 3 1 v (M.listN m k).length (intCells (M.listN m k)) ∧ Below w.heap.size w wr) (fun _ i _ => 12 - (intOf i).toNat)
  case atStart => exact ⟨0, by omega, rfl, ⟨rfl, Or.inl ⟨rfl, rfl⟩⟩, Below.refl _ _⟩
  case round =>
    rename_i wr
    obtain ⟨k, hk, rfl, hO, hB⟩ := hrel
    have HO := Lib.hid hO
    clear hO
    obtain ⟨av, ac, rfl⟩ := own_slice HO.out
    by_cases hkl : k < 12
    · have n1 : (k : Int) < 12 := by omega
      have hcall := HH.out k wr (by omega)
      have hle := M.listN_le m k
      have hz := hB.size
      cases ht : m.testBit k with
      | false =>
        rw [ht] at hcall
        have HC := Lib.hid hcall
        have HN := Lib.hid (M.listN_no m k ht)
        clear hcall ht
        go_wp2_with fail
        refine HC.out.mono ?_
        rintro e w1 ⟨rfl, rfl⟩
        go_wp2_with fail
        go_roundw
        case rel => exact ⟨k + 1, by omega, by go_num, by rw [HN.out]; exact HO.out, hB⟩
        case measure => simp [intOf]; omega
      | true =>
        rw [ht] at hcall
        have HC := Lib.hid hcall
        have HN := Lib.hid (M.listN_yes m k ht)
        clear hcall ht
        go_wp2_with fail
        refine HC.out.mono ?_
        rintro e w1 ⟨rfl, rfl⟩
        have hi := HI0.out
        have hz0 := HZ0.out
        have hz1 := HZ1.out
        have hz2 := HZ2.out
        go_wp2_with (at_builtin; refine wpList_append_own _ rfl _ _ 35 rfl w.heap.size 3 i0 (.int .i64 0) 1 8 Tryz.underlying35 hi hz0 hz1 hz2 rfl (by decide) _ _ _ rfl (HO.out.alloc _) ⟨wr.heap.size, 0, none⟩ 1 1 [.int .i64 k] rfl rfl ?c1 ?c2 ?c3 ?c4 ?c5 ?_)
        case c1 =>
          intro j u hj
          match j, hj with
          | 0, hj => simp at hj; subst hj; simp [Addr.add]
        case c2 => intro u hu; simp at hu; subst hu; rfl
        case c3 => unfold maxLen; omega
        case c4 => omega
        case c5 => simp; omega
        intro v' w3 hown3 hgrow _
        have hB3 : Below w.heap.size w w3 := (hB.alloc hz _).grown hgrow (by simp; omega) (fun j hj => (HO.out.lt j hj).1)
        have R1 := Lib.hid hown3
        clear hown3 hgrow hi hz0 hz1 hz2
        obtain ⟨bv, bc, rfl⟩ := own_slice R1.out
        go_wp2_with fail
        go_roundw
        case rel =>
          refine ⟨k + 1, by omega, by go_num, ?_, hB3⟩
          rw [HN.out, List.length_append]
          have := R1.out
          rw [show intCells (M.listN m k ++ [(k : Int)]) = intCells (M.listN m k) ++ [.int .i64 k] from by unfold intCells; rw [List.map_append]; rfl]
          exact this
        case measure => simp [intOf]; omega
    · obtain rfl : k = 12 := by omega
      obtain ⟨a, c, e, h1, h2, h3, h4⟩ := own_intF HO.out
      cases e
      have HA := Lib.hid h3
      have H1 := Lib.hid h1
      have H2 := Lib.hid h2
      have H4 := Lib.hid h4
      clear h1 h2 h3 h4
      go_wp2_with fail
      go_ret
      exact ⟨_, _, rfl, H1.out, H2.out, HA.out, H4.out, hB⟩

/-- What Parts comes to. -/
def PartsPostF (t : M.Tb) (a : Int) (w : World) (e : Ending) (w' : World) : Prop :=
  ((¬ M.form t ∧ e = .returned (.tuple #[.slice none 0 0, .int .i64 4])) ∨ (M.form t ∧ (M.brk t).1 ≠ 0 ∧ e = .returned (.tuple #[.slice none 0 0, .int .i64 12])) ∨
    (M.lat t ∧ M.inB t.elems.length a = false ∧ e = .returned (.tuple #[.slice none 0 0, .int .i64 7])) ∨
    (M.lat t ∧ M.inB t.elems.length a = true ∧ ∃ la c, e = .returned (.tuple #[.slice la (M.listN (M.prt t a.toNat) 12).length c, .int .i64 0]) ∧ (la = none → c = 0) ∧ (M.listN (M.prt t a.toNat) 12).length ≤ c ∧ IntSl w' la (M.listN (M.prt t a.toNat) 12) ∧ ∀ b off, la = some ⟨b, off, none⟩ → w.heap.size ≤ b)) ∧ Below w.heap.size w w'
theorem ppF_1 {t : M.Tb} {a : Int} {w w' : World} (h : ¬ M.form t) (hB : Below w.heap.size w w') : PartsPostF t a w (.returned (.tuple #[.slice none 0 0, .int .i64 4])) w' := ⟨Or.inl ⟨h, rfl⟩, hB⟩
theorem ppF_2 {t : M.Tb} {a : Int} {w w' : World} (h : M.form t) (hk : (M.brk t).1 ≠ 0) (hB : Below w.heap.size w w') : PartsPostF t a w (.returned (.tuple #[.slice none 0 0, .int .i64 12])) w' := ⟨Or.inr (Or.inl ⟨h, hk, rfl⟩), hB⟩
theorem ppF_3 {t : M.Tb} {a : Int} {w w' : World} (h : M.lat t) (hin : M.inB t.elems.length a = false) (hB : Below w.heap.size w w') : PartsPostF t a w (.returned (.tuple #[.slice none 0 0, .int .i64 7])) w' := ⟨Or.inr (Or.inr (Or.inl ⟨h, hin, rfl⟩)), hB⟩
theorem ppF_4 {t : M.Tb} {a : Int} {w w' : World} {la : Option Addr} {c : Nat} (h : M.lat t) (hin : M.inB t.elems.length a = true) (h1 : la = none → c = 0) (h2 : (M.listN (M.prt t a.toNat) 12).length ≤ c) (h3 : IntSl w' la (M.listN (M.prt t a.toNat) 12)) (h4 : ∀ b off, la = some ⟨b, off, none⟩ → w.heap.size ≤ b) (hB : Below w.heap.size w w') :
    PartsPostF t a w (.returned (.tuple #[.slice la (M.listN (M.prt t a.toNat) 12).length c, .int .i64 0])) w' := ⟨Or.inr (Or.inr (Or.inr ⟨h, hin, la, c, rfl, h1, h2, h3, h4⟩)), hB⟩

set_option maxHeartbeats 8000000 in
set_option maxRecDepth 100000 in
theorem partsF_any (t : M.Tb) (p : Tp) (a : Int) (w : World) (hal : ∀ l, l ∈ t.above → l.length ≤ 1000000) (ht : TbIn w t p) : Calls Tryz.prog 9 #[tbV t p, .int .i64 a] w (PartsPostF t a w) := by
  obtain ⟨ik, hik, hks⟩ := Option.map_eq_some_iff.1 knInfo
  have HIK := Lib.hid hik
  have HKS := Lib.hid hks
  have HC := Lib.hid (proved_any t p (w.alloc (.cells (tbA t p) 26)) hal (ht.below (below1 _ _)))
  obtain ⟨c0, c1, c2, c3⟩ := tbBox (t := t) (p := p) (box_new w (tbA t p) 26)
  clear ht hik hks hal
  go_enter Tryz.func9, Tryz.ntmps9
  go_wp2_with fail
  refine HC.out.mono ?_
  rintro e w1 ⟨⟨hf, rfl⟩ | ⟨hf, hk, rfl⟩ | ⟨hf, rfl⟩, hB1⟩
  · have HF := Lib.hid hf
    have hB := below2 (below1 w (.cells (tbA t p) 26)) hB1
    clear hf hB1 c0 c1 c2 c3
    go_wp2_with fail
    go_ret2
    exact ppF_1 HF.out (belowA hB _)
  · have HF := Lib.hid hf
    have HK := Lib.hid hk
    have hB := below2 (below1 w (.cells (tbA t p) 26)) hB1
    clear hf hk hB1 c0 c1 c2 c3
    go_wp2_with fail
    go_ret2
    exact ppF_2 HF.out HK.out (belowA hB _)
  · have HF := Lib.hid hf
    have hB := below2 (below1 w (.cells (tbA t p) 26)) hB1
    clear hf hB1 c0 c1 c2 c3
    have HKN := Lib.hid (box_new w1 (knA t p (M.know t)) 58)
    go_wp2_with (refine wpList_load_row _ rfl 58 _ rfl ik HIK.out (knAgg _) w1.heap.size (knA t p (M.know t)) 58 rfl HKN.out HKS.out ?_)
    refine (hasAll_any t p (M.know t) (some ⟨w1.heap.size + 1, 0, none⟩) 1 [a] _ (by show 1 ≤ 1000000; omega) (Or.inr ⟨w1.heap.size + 1, 0, rfl, by simp, fun i hi => by
        have : i = 0 := by simpa using hi
        subst this
        rw [World.cell?_alloc_at _ _ _ _ (by simp)]; rfl⟩)).mono ?_
    rintro e w2 ⟨rfl, hB2⟩
    rw [all1]
    have HK2 := Lib.hid (show w2.heap[w1.heap.size]? = some (.cells (knA t p (M.know t)) 58 (0, 0)) from by rw [hB2.block _ (by simp; omega), Below.heap_alloc _ _ _ (by simp)]; exact HKN.out)
    have hBf := below2 (belowA (belowA hB _) _) hB2
    clear hB hB2
    cases hin : M.inB t.elems.length a with
    | false =>
      have HIN := Lib.hid hin
      clear hin
      go_wp2_with fail
      go_ret2
      exact ppF_3 HF.out HIN.out hBf
    | true =>
      have HIN := Lib.hid hin
      unfold M.inB at hin
      simp only [Bool.and_eq_true, decide_eq_true_eq] at hin
      obtain ⟨k, rfl⟩ : ∃ k : Nat, a = k := ⟨a.toNat, by omega⟩
      have hk12 : k < t.elems.length := by omega
      clear hin
      go_wp2_with (refine wpList_load_row _ rfl 58 _ rfl ik HIK.out (knAgg _) w1.heap.size (knA t p (M.know t)) 58 rfl HK2.out HKS.out ?_)
      refine (parts_any t p k _ HF.out.1 hk12).mono ?_
      rintro e w3 ⟨rfl, hB3⟩
      have hB4 := below2 hBf hB3
      clear hB3
      go_wp2_with fail
      refine (listF_any (M.prt t k) _ (Nat.lt_trans (M.prt_lt t k) (by omega))).mono ?_
      rintro e w4 ⟨la, c, rfl, h1, h2, h3, h4, hB5⟩
      have H1 := Lib.hid h1
      have H2 := Lib.hid h2
      have H3 := Lib.hid h3
      have hB6 := below2 hB4 hB5
      have H4 := Lib.hid (show ∀ b off, la = some ⟨b, off, none⟩ → w.heap.size ≤ b from fun b off e => Nat.le_trans hB4.size (h4 b off e))
      clear h1 h2 h3 h4 hB5
      go_wp2_with fail
      go_ret2
      exact ppF_4 HF.out HIN.out H1.out H2.out H3.out H4.out hB6

/-- What Primes comes to. -/
def PrimesPostF (t : M.Tb) (w : World) (e : Ending) (w' : World) : Prop :=
  ((¬ M.form t ∧ e = .returned (.tuple #[.slice none 0 0, .int .i64 4])) ∨ (M.form t ∧ (M.brk t).1 ≠ 0 ∧ e = .returned (.tuple #[.slice none 0 0, .int .i64 12])) ∨
    (M.lat t ∧ ∃ la c, e = .returned (.tuple #[.slice la (M.listN (M.prm t) 12).length c, .int .i64 0]) ∧ (M.listN (M.prm t) 12).length ≤ c ∧ IntSl w' la (M.listN (M.prm t) 12))) ∧ Below w.heap.size w w'
theorem pmF_1 {t : M.Tb} {w w' : World} (h : ¬ M.form t) (hB : Below w.heap.size w w') : PrimesPostF t w (.returned (.tuple #[.slice none 0 0, .int .i64 4])) w' := ⟨Or.inl ⟨h, rfl⟩, hB⟩
theorem pmF_2 {t : M.Tb} {w w' : World} (h : M.form t) (hk : (M.brk t).1 ≠ 0) (hB : Below w.heap.size w w') : PrimesPostF t w (.returned (.tuple #[.slice none 0 0, .int .i64 12])) w' := ⟨Or.inr (Or.inl ⟨h, hk, rfl⟩), hB⟩
theorem pmF_3 {t : M.Tb} {w w' : World} {la : Option Addr} {c : Nat} (h : M.lat t) (h2 : (M.listN (M.prm t) 12).length ≤ c) (hl : IntSl w' la (M.listN (M.prm t) 12)) (hB : Below w.heap.size w w') : PrimesPostF t w (.returned (.tuple #[.slice la (M.listN (M.prm t) 12).length c, .int .i64 0])) w' := ⟨Or.inr (Or.inr ⟨h, la, c, rfl, h2, hl⟩), hB⟩

set_option maxHeartbeats 8000000 in
set_option maxRecDepth 100000 in
theorem primesF_any (t : M.Tb) (p : Tp) (w : World) (hal : ∀ l, l ∈ t.above → l.length ≤ 1000000) (ht : TbIn w t p) : Calls Tryz.prog 8 #[tbV t p] w (PrimesPostF t w) := by
  obtain ⟨ik, hik, hks⟩ := Option.map_eq_some_iff.1 knInfo
  have HIK := Lib.hid hik
  have HKS := Lib.hid hks
  have HC := Lib.hid (proved_any t p (w.alloc (.cells (tbA t p) 26)) hal (ht.below (below1 _ _)))
  obtain ⟨c0, c1, c2, c3⟩ := tbBox (t := t) (p := p) (box_new w (tbA t p) 26)
  clear ht hik hks hal
  go_enter Tryz.func8, Tryz.ntmps8
  go_wp2_with fail
  refine HC.out.mono ?_
  rintro e w1 ⟨⟨hf, rfl⟩ | ⟨hf, hk, rfl⟩ | ⟨hf, rfl⟩, hB1⟩
  · have HF := Lib.hid hf
    have hB := below2 (below1 w (.cells (tbA t p) 26)) hB1
    clear hf hB1 c0 c1 c2 c3
    go_wp2_with fail
    go_ret2
    exact pmF_1 HF.out (belowA hB _)
  · have HF := Lib.hid hf
    have HK := Lib.hid hk
    have hB := below2 (below1 w (.cells (tbA t p) 26)) hB1
    clear hf hk hB1 c0 c1 c2 c3
    go_wp2_with fail
    go_ret2
    exact pmF_2 HF.out HK.out (belowA hB _)
  · have HF := Lib.hid hf
    have hB := below2 (below1 w (.cells (tbA t p) 26)) hB1
    clear hf hB1 c0 c1 c2 c3
    have HKN := Lib.hid (box_new w1 (knA t p (M.know t)) 58)
    go_wp2_with (refine wpList_load_row _ rfl 58 _ rfl ik HIK.out (knAgg _) w1.heap.size (knA t p (M.know t)) 58 rfl HKN.out HKS.out ?_)
    refine (primes_any t p _ HF.out.1).mono ?_
    rintro e w3 ⟨rfl, hB3⟩
    have hB4 := below2 (belowA hB _) hB3
    clear hB3
    go_wp2_with fail
    refine (listF_any (M.prm t) _ (Nat.lt_trans (M.prm_lt HF.out.1) (by omega))).mono ?_
    rintro e w4 ⟨la, c, rfl, h1, h2, h3, h4, hB5⟩
    have H3 := Lib.hid h3
    have H2 := Lib.hid h2
    have hB6 := below2 hB4 hB5
    clear h1 h2 h3 h4 hB5
    go_wp2_with fail
    go_ret2
    exact pmF_3 HF.out H2.out H3.out hB6

end Go.Proofs.YtnhnjfoboepffaaGreat
