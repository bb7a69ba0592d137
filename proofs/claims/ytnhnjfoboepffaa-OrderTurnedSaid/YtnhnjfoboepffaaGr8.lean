/- Texts of one's own, joined: OrdI, BasL. -/
import Derived.Test.YtnhnjfoboepffaaGr6
import Derived.Laws.BitsAllLaws
import Derived.Test.YtnhnjfoboepffaaGr1
namespace Go.Proofs.Ytnhnjfoboepffaa
open Go.RowKit

theorem mask_bit (m a : Nat) (hm : m < 65536) : (bits .and .u16 ((m : Int) / 2 ^ a) 1 == 1) = m.testBit a := by
  have e1 : ((m : Int) / 2 ^ a) = ((m / 2 ^ a : Nat) : Int) := by rw [Int.natCast_ediv, Int.natCast_pow]; rfl
  have h1 : m / 2 ^ a < 65536 := Nat.lt_of_le_of_lt (Nat.div_le_self _ _) hm
  rw [e1, show (1 : Int) = ((1 : Nat) : Int) from rfl, u16_and_nat _ _ h1 (by omega), Nat.and_one_is_mod, Nat.testBit_eq_decide_div_mod_eq, Bool.eq_iff_iff]
  simp only [beq_iff_eq, decide_eq_true_eq]
  omega
theorem mask_or (m a : Nat) (hm : m < 65536) (ha : a < 16) : bits .or .u16 (m : Int) (IntKind.u16.wrap (2 ^ a)) = ((m ||| 2 ^ a : Nat) : Int) := by
  have h2 : 2 ^ a < 65536 := Nat.pow_lt_pow_right (a := 2) (by omega) (show a < 16 from ha)
  have e : IntKind.u16.wrap (2 ^ a) = ((2 ^ a : Nat) : Int) := by
    rw [IntKind.wrap_u16, show ((2 : Int) ^ a) = ((2 ^ a : Nat) : Int) from (by rw [Int.natCast_pow]; rfl)]
    exact Int.emod_eq_of_lt (Int.natCast_nonneg _) (Int.ofNat_lt.2 h2)
  rw [e, u16_or_nat _ _ hm h2]

namespace M
/-- Some numbers as bits. -/
def ofN (l : List Int) : Nat := l.foldl (fun m x => m ||| 2 ^ x.toNat) 0
theorem ofN_snoc (l : List Int) (x : Int) : ofN (l ++ [x]) = ofN l ||| 2 ^ x.toNat := by unfold ofN; rw [List.foldl_append]; rfl
theorem ofN_lt (l : List Int) (h : ∀ i, (hi : i < l.length) → 0 ≤ l[i] ∧ l[i] < 12) : ∀ k, k ≤ l.length → ofN (l.take k) < 4096 := by
  intro k
  induction k with
  | zero => intro _; rw [List.take_zero]; decide
  | succ k ih =>
    intro hk
    rw [List.take_succ_eq_append_getElem (by omega), ofN_snoc]
    have := h k (by omega)
    exact Nat.or_lt_two_pow (n := 12) (ih (by omega)) (Nat.pow_lt_pow_right (a := 2) (by omega) (by omega))
theorem ofN_bit (l : List Int) (h : ∀ x, x ∈ l → 0 ≤ x) (j : Nat) : (ofN l).testBit j = true ↔ (j : Int) ∈ l := by
  suffices ∀ l : List Int, (∀ x, x ∈ l → 0 ≤ x) → ∀ m : Nat, (l.foldl (fun m x => m ||| 2 ^ x.toNat) m).testBit j = true ↔ (m.testBit j = true ∨ (j : Int) ∈ l) by
    have := this l h 0
    simpa [ofN] using this
  intro l
  induction l with
  | nil => intro _ m; simp
  | cons x l ih =>
    intro h m
    rw [List.foldl_cons, ih (fun y hy => h y (List.mem_cons_of_mem _ hy)), Nat.testBit_or, Nat.testBit_two_pow, Bool.or_eq_true, decide_eq_true_eq, List.mem_cons]
    have hx := h x List.mem_cons_self
    constructor
    · rintro ((q | q) | q)
      · exact Or.inl q
      · exact Or.inr (Or.inl (by omega))
      · exact Or.inr (Or.inr q)
    · rintro (q | q | q)
      · exact Or.inl (Or.inl q)
      · exact Or.inl (Or.inr (by omega))
      · exact Or.inr q
/-- The first numbers whose bits are set, ascending. -/
def listN (m k : Nat) : List Int := ((List.range k).filter m.testBit).map fun (x : Nat) => (x : Int)
theorem listN_yes (m k : Nat) (h : m.testBit k = true) : listN m (k + 1) = listN m k ++ [(k : Int)] := by unfold listN; rw [List.range_succ, List.filter_append, List.map_append]; simp [h]
theorem listN_no (m k : Nat) (h : m.testBit k = false) : listN m (k + 1) = listN m k := by unfold listN; rw [List.range_succ, List.filter_append, List.map_append]; simp [h]
theorem listN_le (m k : Nat) : (listN m k).length ≤ k := by
  unfold listN
  rw [List.length_map]
  exact Nat.le_trans (List.length_filter_le _ _) (by rw [List.length_range]; exact Nat.le_refl _)
theorem listN_mem (m k : Nat) (x : Int) : x ∈ listN m k ↔ ∃ j : Nat, x = j ∧ j < k ∧ m.testBit j = true := by
  unfold listN
  simp only [List.mem_map, List.mem_filter, List.mem_range]
  constructor
  · rintro ⟨j, ⟨h1, h2⟩, rfl⟩; exact ⟨j, rfl, h1, h2⟩
  · rintro ⟨j, rfl, h1, h2⟩; exact ⟨j, ⟨h1, h2⟩, rfl⟩
end M

set_option maxHeartbeats 1000000 in
set_option maxRecDepth 100000 in
theorem has_any (m a : Nat) (w : World) (hm : m < 65536) (ha : a < 16) : Calls Try.prog 63 #[.int .u16 m, .int .i64 a] w fun e w' => e = .returned (.bool (m.testBit a)) ∧ w = w' := by
  have HR := Lib.hid (mask_bit m a hm)
  go_enter Try.func63, Try.ntmps63
  go_wp2_with fail
  go_ret
  exact ⟨ret_bool HR.out, rfl⟩

set_option maxHeartbeats 1000000 in
set_option maxRecDepth 100000 in
theorem of_any (a : Option Addr) (c : Nat) (l : List Int) (w : World) (hl : l.length ≤ 1000000) (ho : IntSl w a l) (hb : ∀ i, (h : i < l.length) → 0 ≤ l[i] ∧ l[i] < 12) :
    Calls Try.prog 54 #[.slice a l.length c] w fun e w' => e = .returned (.int .u16 (M.ofN l)) ∧ w = w' := by
  have HO := Lib.hid ho
  have HB := Lib.hid hb
  clear ho hb
  go_enter Try.func54, Try.ntmps54
  go_wp2_with fail
  go_loop [3, 8] (fun s i => ∃ k : Nat, ∃ m : Nat, k ≤ l.length ∧ i = .int .i64 k ∧ s = .int .u16 m ∧ Hid (m = M.ofN (l.take k))) (fun _ i => l.length - (intOf i).toNat)
  case atStart => exact ⟨0, 0, by omega, rfl, rfl, Lib.hid rfl⟩
  case round =>
    obtain ⟨k, m, hk, rfl, rfl, HM⟩ := hrel
    by_cases hkl : k < l.length
    · obtain ⟨b, off, rfl, ha⟩ := HO.out.at hkl
      have c0 := ha.at_ k hkl
      have hq := HB.out k hkl
      have hm : m < 65536 := by rw [HM.out]; exact Nat.lt_trans (M.ofN_lt l HB.out k hk) (by omega)
      have hnx : m ||| 2 ^ (l[k]).toNat = M.ofN (l.take (k + 1)) := by rw [List.take_succ_eq_append_getElem hkl, M.ofN_snoc, HM.out]
      obtain ⟨x, hx⟩ : ∃ x : Nat, l[k] = (x : Int) := ⟨(l[k]).toNat, by omega⟩
      rw [hx] at c0 hq hnx
      rw [Int.toNat_natCast] at hnx
      have hor := mask_or m x hm (by omega)
      have HN := Lib.hid hnx
      have HOR := Lib.hid hor
      clear hx ha hnx hor
      have n1 : (k : Int) < (l.length : Int) := by omega
      have n2 : (0 : Int) ≤ (k : Int) := by omega
      go_wp2_with fail
      go_round
      case rel => exact ⟨k + 1, m ||| 2 ^ x, by omega, by go_num, by rw [HOR.out], HN⟩
      case measure => simp [intOf]; omega
    · obtain rfl : k = l.length := by omega
      have m1 : decide ((l.length : Int) < (l.length : Int)) = false := decide_eq_false (by omega)
      have hr : m = M.ofN l := by rw [HM.out, List.take_length]
      have HR := Lib.hid hr
      clear hr
      go_wp2_with fail
      go_ret
      exact ⟨ret_int (by rw [HR.out]), rfl⟩

abbrev intCells (l : List Int) : List Value := l.map (Value.int .i64)
theorem intInfo : (Try.prog.info? 3).map (fun i => (i.zero, i.size, i.bytes)) = some (some (.int .i64 0), 1, 8) := by kernel_rfl
/-- A result that is a list of numbers. -/
def IntsPost (l : List Int) (w : World) (e : Ending) (w' : World) : Prop := ∃ a c, e = .returned (.slice a l.length c) ∧ (a = none → c = 0) ∧ l.length ≤ c ∧ IntSl w' a l ∧ Below w.heap.size w w'
theorem own_int {w : World} {base : Nat} {v : Value} {l : List Int} (h : w.ownsRow base 3 1 v l.length (intCells l)) : ∃ a c, v = .slice a l.length c ∧ (a = none → c = 0) ∧ l.length ≤ c ∧ IntSl w a l := by
  rcases h.2 with ⟨rfl, h0⟩ | ⟨g, cap, cur, rfl, hb, hg, hn, hm, hs, ht⟩
  · exact ⟨none, 0, by rw [h0], fun _ => rfl, by omega, Or.inl (List.length_eq_zero_iff.1 h0)⟩
  · refine ⟨_, _, rfl, (fun h => by cases h), hn, Or.inr ⟨g, 0, rfl, ?_, ?_⟩⟩
    · rcases Nat.lt_or_ge g w.heap.size with h' | h'
      · exact h'
      · simp [Array.getElem?_eq_none h'] at hg
    · intro i hi
      have hc : (intCells l)[i]? = some (.int .i64 l[i]) := by simp [hi]
      simp only [World.cell?, hg, Nat.zero_add]
      rw [← ht, List.getElem?_take, if_pos (by omega)] at hc
      simpa using hc

set_option maxHeartbeats 2000000 in
set_option maxRecDepth 100000 in
theorem list_any (m : Nat) (w : World) (hm : m < 65536) : Calls Try.prog 37 #[.int .u16 m] w (IntsPost (M.listN m 12) w) := by
  obtain ⟨i0, hi, hz0, hz1, hz2⟩ := info_parts intInfo
  have HI0 := Lib.hid hi
  have HZ0 := Lib.hid hz0
  have HZ1 := Lib.hid hz1
  have HZ2 := Lib.hid hz2
  clear hi hz0 hz1 hz2
  have HH := Lib.hid fun a W (h : a < 16) => has_any m a W hm h
  go_enter Try.func37, Try.ntmps37
  go_wp2_with fail
  go_loopw [3, 5] (fun v i wr => ∃ k : Nat, k ≤ 12 ∧ i = .int .i64 k ∧ wr.ownsRow w.heap.size 3 1 v (M.listN m k).length (intCells (M.listN m k)) ∧ Below w.heap.size w wr) (fun _ i _ => 12 - (intOf i).toNat)
  case atStart => exact ⟨0, by omega, rfl, ⟨rfl, Or.inl ⟨rfl, rfl⟩⟩, Below.refl _ _⟩
  case round =>
    rename_i wr
    obtain ⟨k, hk, rfl, hO, hB⟩ := hrel
    have HO := Lib.hid hO
    clear hO
    obtain ⟨av, ac, rfl⟩ := own_slice HO.out
    by_cases hkl : k < 12
    · have n1 : (k : Int) < 12 := by omega
      have hcall := HH.out k wr (by omega)
      have hle := M.listN_le m k
      have hz := hB.size
      cases ht : m.testBit k with
      | false =>
        rw [ht] at hcall
        have HC := Lib.hid hcall
        have HN := Lib.hid (M.listN_no m k ht)
        clear hcall ht
        go_wp2_with fail
        refine HC.out.mono ?_
        rintro e w1 ⟨rfl, rfl⟩
        go_wp2_with fail
        go_roundw
        case rel => exact ⟨k + 1, by omega, by go_num, by rw [HN.out]; exact HO.out, hB⟩
        case measure => simp [intOf]; omega
      | true =>
        rw [ht] at hcall
        have HC := Lib.hid hcall
        have HN := Lib.hid (M.listN_yes m k ht)
        clear hcall ht
        go_wp2_with fail
        refine HC.out.mono ?_
        rintro e w1 ⟨rfl, rfl⟩
        have hi := HI0.out
        have hz0 := HZ0.out
        have hz1 := HZ1.out
        have hz2 := HZ2.out
        go_wp2_with (at_builtin; refine wpList_append_own _ rfl _ _ 37 rfl w.heap.size 3 i0 (.int .i64 0) 1 8 Try.underlying37 hi hz0 hz1 hz2 rfl (by decide) _ _ _ rfl (HO.out.alloc _) ⟨wr.heap.size, 0, none⟩ 1 1 [.int .i64 k] rfl rfl ?c1 ?c2 ?c3 ?c4 ?c5 ?_)
        case c1 =>
          intro j u hj
          match j, hj with
          | 0, hj => simp at hj; subst hj; simp [Addr.add]
        case c2 => intro u hu; simp at hu; subst hu; rfl
        case c3 => unfold maxLen; omega
        case c4 => omega
        case c5 => simp; omega
        intro v' w3 hown3 hgrow _
        have hB3 : Below w.heap.size w w3 := (hB.alloc hz _).grown hgrow (by simp; omega) (fun j hj => (HO.out.lt j hj).1)
        have R1 := Lib.hid hown3
        clear hown3 hgrow hi hz0 hz1 hz2
        obtain ⟨bv, bc, rfl⟩ := own_slice R1.out
        go_wp2_with fail
        go_roundw
        case rel =>
          refine ⟨k + 1, by omega, by go_num, ?_, hB3⟩
          rw [HN.out, List.length_append]
          have := R1.out
          rw [show intCells (M.listN m k ++ [(k : Int)]) = intCells (M.listN m k) ++ [.int .i64 k] from by unfold intCells; rw [List.map_append]; rfl]
          exact this
        case measure => simp [intOf]; omega
    · obtain rfl : k = 12 := by omega
      obtain ⟨a, c, e, h1, h2, h3⟩ := own_int HO.out
      cases e
      have HA := Lib.hid h3
      have H1 := Lib.hid h1
      have H2 := Lib.hid h2
      clear h1 h2 h3
      go_wp2_with fail
      go_ret
      exact ⟨_, _, rfl, H1.out, H2.out, HA.out, hB⟩
end Go.Proofs.Ytnhnjfoboepffaa

namespace Go.Proofs.Ytnhnjfoboepffaa
open Go.RowKit

/-- Numbers as they lie in a block that may be written. -/
def NmB (w : World) (B n : Nat) (f : Nat → Nat) : Prop := ∀ i, i < n → w.cell? ⟨B, i, none⟩ = some (.int .i64 (f i : Nat)) ∧ w.frozen? ⟨B, i, none⟩ = false
theorem NmB.below {w w' : World} {B n : Nat} {f : Nat → Nat} (h : NmB w B n f) (base : Nat) (hb : B < base) (hB : Below base w w') : NmB w' B n f :=
  fun i hi => ⟨(hB.cell (p := ⟨B, i, none⟩) hb).trans (h i hi).1, (hB.frozen (p := ⟨B, i, none⟩) hb).trans (h i hi).2⟩
theorem NmB.set {w : World} {B n : Nat} {f : Nat → Nat} (h : NmB w B n f) (y v : Nat) : NmB (w.setCell ⟨B, y, none⟩ (.int .i64 (v : Nat))) B n (fun i => if i = y then v else f i) := by
  intro i hi
  refine ⟨?_, by rw [World.frozen?_setCell]; exact (h i hi).2⟩
  by_cases e : i = y
  · subst e
    rw [World.cell?_setCell_same' _ _ _ (by rw [(h i hi).1]; rfl)]
    simp only [if_true]
  · rw [World.cell?_setCell_other _ _ _ _ (by intro q; have := congrArg Addr.off q; simp at this; omega)]
    simp only [if_neg e]
    exact (h i hi).1
abbrev nmsA (n : Nat) : Array Value := madeCells #[.int .i64 0] n
theorem nmsA_at (n i : Nat) (h : i < n) : (nmsA n)[i]? = some (.int .i64 0) := by
  unfold nmsA madeCells
  have h2 : i < ((Array.range n).map fun x => (#[Value.int .i64 0] : Array Value)[x % 1]!).size := by simp; omega
  show ((Array.range n).map fun x => (#[Value.int .i64 0] : Array Value)[x % 1]!)[i]? = _
  rw [Array.getElem?_eq_getElem h2]
  simp [Nat.mod_one]
theorem make_ints (n : Nat) (hn : n ≤ 1000000) (W : World) : (Instr.makeSlice 37 (.int .i64 n) (.int .i64 n)).run Try.prog W = .ok (.slice (some ⟨W.heap.size, 0, none⟩) n n) (W.alloc (.cells (nmsA n) 3)) := by
  obtain ⟨i0, hi, hz0, hz1, hz2⟩ := info_parts intInfo
  have h := run_make (P := Try.prog) W 37 3 i0 (.int .i64 0) Try.underlying37 hi hz0 .i64 .i64 (n : Int) (n : Int) (by omega) (Int.le_refl _) (by rw [hz2]; omega) (by omega)
  rw [hz1, Int.toNat_natCast, Nat.mul_one] at h
  exact h
theorem nmB_new (W : World) (n : Nat) : NmB (W.alloc (.cells (nmsA n) 3)) W.heap.size n (fun _ => 0) := by
  intro i hi
  have h := box_new W (nmsA n) 3
  refine ⟨?_, Lib.frozen_of_heap h i⟩
  rw [Lib.cell_of_heap h]; exact nmsA_at n i hi
/-- A byte that comes in. -/
abbrev bytV (x : Fin 256) : Value := .int .u8 ((x.val : Nat) : Int)
end Go.Proofs.Ytnhnjfoboepffaa
