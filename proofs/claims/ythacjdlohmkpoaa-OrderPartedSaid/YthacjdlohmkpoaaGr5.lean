/- Texts of one's own, joined: OrdBa, OrdI. -/
import Derived.Test.YthacjdlohmkpoaaGr1
import Derived.Test.YthacjdlohmkpoaaGr4
import Derived.Test.YthacjdlohmkpoaaGr3
import Derived.Laws.BitsAllLaws
namespace Go.Proofs.Ythacjdlohmkpoaa
open Go.RowKit

namespace M
def dia : Tb := ⟨⟨#[108]⟩, [⟨#[97]⟩, ⟨#[98]⟩, ⟨#[99]⟩, ⟨#[100]⟩], [[1, 2], [3], [3], []], [false, false, false, true]⟩
def man : Tb := ⟨⟨#[109]⟩, [⟨#[97]⟩, ⟨#[98]⟩, ⟨#[99]⟩, ⟨#[100]⟩, ⟨#[101]⟩], [[1, 2], [3, 4], [3, 4], [], []], [false, false, false, false, false]⟩
end M
theorem cel_box {α : Type} {f : α → Value} {w : World} {B : Nat} {o : Array Value} {t : TypeId} (h : w.heap[B]? = some (.cells o t (0, 0))) (l : List α) (ho : o = (l.map f).toArray) : CelSl f w (some ⟨B, 0, none⟩) l := by
  refine Or.inr ⟨B, 0, rfl, ?_, fun i hi => ?_⟩
  · rcases Nat.lt_or_ge B w.heap.size with h' | h'
    · exact h'
    · simp [Array.getElem?_eq_none h'] at h
  · rw [Lib.cell_of_heap h, ho]
    simp [hi]
theorem row_box {w : World} {B : Nat} {o : Array Value} {t : TypeId} (h : w.heap[B]? = some (.cells o t (0, 0))) (l : List (List Int))
    (ho : ∀ i, (hi : i < l.length) → ∃ a c, o[i]? = some (.slice a l[i].length c) ∧ (a = none → c = 0) ∧ l[i].length ≤ c ∧ CelSl (Value.int .i64) w a l[i]) : RowSl w (some ⟨B, 0, none⟩) l := by
  refine Or.inr ⟨B, 0, rfl, ?_, fun i hi => ?_⟩
  · rcases Nat.lt_or_ge B w.heap.size with h' | h'
    · exact h'
    · simp [Array.getElem?_eq_none h'] at h
  · obtain ⟨a, c, h1, h2, h3, h4⟩ := ho i hi
    exact ⟨a, c, by rw [Lib.cell_of_heap h, Nat.zero_add]; exact h1, h2, h3, h4⟩
theorem heap_below {w w' : World} {B : Nat} {o : Obj} (h : w.heap[B]? = some o) (hB : Below w.heap.size w w') : w'.heap[B]? = some o := by
  rw [hB.block B (by rcases Nat.lt_or_ge B w.heap.size with h' | h'; exact h'; simp [Array.getElem?_eq_none h'] at h)]; exact h
/-- Where a table and its six blocks lie. -/
structure Six (w w' : World) (b : Array Value) (bt : TypeId) (s : Array Value) (st : TypeId) (r1 r2 r3 : Array Value) (rt : TypeId) (o : Array Value) (ot : TypeId) (z : Array Value) (zt : TypeId) : Prop where
  h0 : w'.heap[w.heap.size]? = some (.cells b bt (0, 0))
  h1 : w'.heap[w.heap.size + 1]? = some (.cells s st (0, 0))
  h2 : w'.heap[w.heap.size + 1 + 1]? = some (.cells r1 rt (0, 0))
  h3 : w'.heap[w.heap.size + 1 + 1 + 1]? = some (.cells r2 rt (0, 0))
  h4 : w'.heap[w.heap.size + 1 + 1 + 1 + 1]? = some (.cells r3 rt (0, 0))
  h5 : w'.heap[w.heap.size + 1 + 1 + 1 + 1 + 1]? = some (.cells o ot (0, 0))
  h6 : w'.heap[w.heap.size + 1 + 1 + 1 + 1 + 1 + 1]? = some (.cells z zt (0, 0))
  below : Below w.heap.size w w'
theorem six (w : World) (b : Array Value) (bt : TypeId) (s : Array Value) (st : TypeId) (r1 r2 r3 : Array Value) (rt : TypeId) (o : Array Value) (ot : TypeId) (z : Array Value) (zt : TypeId) :
    Six w (((((((w.alloc (.cells b bt)).alloc (.cells s st)).alloc (.cells r1 rt)).alloc (.cells r2 rt)).alloc (.cells r3 rt)).alloc (.cells o ot)).alloc (.cells z zt)) b bt s st r1 r2 r3 rt o ot z zt := by
  have a0 := box_new w b bt
  obtain ⟨w1, e1⟩ : ∃ w1, w.alloc (.cells b bt) = w1 := ⟨_, rfl⟩
  have s1 : w1.heap.size = w.heap.size + 1 := by rw [← e1, World.size_alloc]
  have b1 : Below w.heap.size w w1 := by rw [← e1]; exact below1 _ _
  rw [e1] at a0 ⊢
  have a1 := box_new w1 s st
  obtain ⟨w2, e2⟩ : ∃ w2, w1.alloc (.cells s st) = w2 := ⟨_, rfl⟩
  have s2 : w2.heap.size = w1.heap.size + 1 := by rw [← e2, World.size_alloc]
  have b2 : Below w1.heap.size w1 w2 := by rw [← e2]; exact below1 _ _
  rw [e2] at a1 ⊢
  have a2 := box_new w2 r1 rt
  obtain ⟨w3, e3⟩ : ∃ w3, w2.alloc (.cells r1 rt) = w3 := ⟨_, rfl⟩
  have s3 : w3.heap.size = w2.heap.size + 1 := by rw [← e3, World.size_alloc]
  have b3 : Below w2.heap.size w2 w3 := by rw [← e3]; exact below1 _ _
  rw [e3] at a2 ⊢
  have a3 := box_new w3 r2 rt
  obtain ⟨w4, e4⟩ : ∃ w4, w3.alloc (.cells r2 rt) = w4 := ⟨_, rfl⟩
  have s4 : w4.heap.size = w3.heap.size + 1 := by rw [← e4, World.size_alloc]
  have b4 : Below w3.heap.size w3 w4 := by rw [← e4]; exact below1 _ _
  rw [e4] at a3 ⊢
  have a4 := box_new w4 r3 rt
  obtain ⟨w5, e5⟩ : ∃ w5, w4.alloc (.cells r3 rt) = w5 := ⟨_, rfl⟩
  have s5 : w5.heap.size = w4.heap.size + 1 := by rw [← e5, World.size_alloc]
  have b5 : Below w4.heap.size w4 w5 := by rw [← e5]; exact below1 _ _
  rw [e5] at a4 ⊢
  have a5 := box_new w5 o ot
  obtain ⟨w6, e6⟩ : ∃ w6, w5.alloc (.cells o ot) = w6 := ⟨_, rfl⟩
  have s6 : w6.heap.size = w5.heap.size + 1 := by rw [← e6, World.size_alloc]
  have b6 : Below w5.heap.size w5 w6 := by rw [← e6]; exact below1 _ _
  rw [e6] at a5 ⊢
  have a6 := box_new w6 z zt
  obtain ⟨w7, e7⟩ : ∃ w7, w6.alloc (.cells z zt) = w7 := ⟨_, rfl⟩
  have b7 : Below w6.heap.size w6 w7 := by rw [← e7]; exact below1 _ _
  rw [e7] at a6 ⊢
  have d6 := below2 b6 b7
  have d5 := below2 b5 d6
  have d4 := below2 b4 d5
  have d3 := below2 b3 d4
  have d2 := below2 b2 d3
  have d1 := below2 b1 d2
  rw [s6, s5, s4, s3, s2, s1] at a6
  rw [s5, s4, s3, s2, s1] at a5
  rw [s4, s3, s2, s1] at a4
  rw [s3, s2, s1] at a3
  rw [s2, s1] at a2
  rw [s1] at a1
  exact ⟨heap_below a0 d2, heap_below a1 d3, heap_below a2 d4, heap_below a3 d5, heap_below a4 d6, heap_below a5 b7, a6, d1⟩

set_option maxHeartbeats 4000000 in
set_option maxRecDepth 100000 in
theorem diamond_any (w : World) : Calls Try.prog 30 #[] w fun e w' => ∃ p, e = .returned (tbV M.dia p) ∧ TbIn w' M.dia p ∧ Below w.heap.size w w' := by
  obtain ⟨p, hp⟩ : ∃ p : Tp, p = ⟨some ⟨w.heap.size + 1, 0, none⟩, 4, some ⟨w.heap.size + 1 + 1 + 1 + 1 + 1, 0, none⟩, 4, some ⟨w.heap.size + 1 + 1 + 1 + 1 + 1 + 1, 0, none⟩, 4⟩ := ⟨_, rfl⟩
  have q := six w (tbA M.dia p) 26
    #[.string ⟨#[97]⟩, .string ⟨#[98]⟩, .string ⟨#[99]⟩, .string ⟨#[100]⟩] 9
    #[.int .i64 1, .int .i64 2] #[.int .i64 3] #[.int .i64 3] 3
    #[.slice (some ⟨w.heap.size + 1 + 1, 0, none⟩) 2 2, .slice (some ⟨w.heap.size + 1 + 1 + 1, 0, none⟩) 1 1, .slice (some ⟨w.heap.size + 1 + 1 + 1 + 1, 0, none⟩) 1 1, .slice none 0 0] 36 #[.bool false, .bool false, .bool false, .bool true] 4
  have HT : Hid (TbIn _ M.dia p ∧ Below w.heap.size w _) := Lib.hid (by
    rw [hp] at q ⊢
    refine ⟨⟨cel_box q.h1 _ rfl, row_box q.h5 _ ?_, cel_box q.h6 _ rfl, fun h => (by cases h), fun h => (by cases h), fun h => (by cases h), Nat.le_refl 4, Nat.le_refl 4, Nat.le_refl 4⟩, q.below⟩
    intro i hi
    match i, hi with
    | 0, _ => exact ⟨_, _, rfl, fun h => (by cases h), Nat.le_refl 2, cel_box q.h2 _ rfl⟩
    | 1, _ => exact ⟨_, _, rfl, fun h => (by cases h), Nat.le_refl 1, cel_box q.h3 _ rfl⟩
    | 2, _ => exact ⟨_, _, rfl, fun h => (by cases h), Nat.le_refl 1, cel_box q.h4 _ rfl⟩
    | 3, _ => exact ⟨_, _, rfl, fun _ => rfl, Nat.le_refl 0, Or.inl rfl⟩)
  rw [hp] at HT
  clear q hp
  go_enter Try.func30, Try.ntmps30
  go_wp2_with fail
  exact bodyPost_ret (v := tbV M.dia ⟨some ⟨w.heap.size + 1, 0, none⟩, 4, some ⟨w.heap.size + 1 + 1 + 1 + 1 + 1, 0, none⟩, 4, some ⟨w.heap.size + 1 + 1 + 1 + 1 + 1 + 1, 0, none⟩, 4⟩) (by simp [results, Try.results30, go_sem, M.dia]) rfl ⟨_, rfl, HT.out.1, HT.out.2⟩

set_option maxHeartbeats 4000000 in
set_option maxRecDepth 100000 in
theorem many_any (w : World) : Calls Try.prog 31 #[] w fun e w' => ∃ p, e = .returned (tbV M.man p) ∧ TbIn w' M.man p ∧ Below w.heap.size w w' := by
  obtain ⟨p, hp⟩ : ∃ p : Tp, p = ⟨some ⟨w.heap.size + 1, 0, none⟩, 5, some ⟨w.heap.size + 1 + 1 + 1 + 1 + 1, 0, none⟩, 5, some ⟨w.heap.size + 1 + 1 + 1 + 1 + 1 + 1, 0, none⟩, 5⟩ := ⟨_, rfl⟩
  have q := six w (tbA M.man p) 26
    #[.string ⟨#[97]⟩, .string ⟨#[98]⟩, .string ⟨#[99]⟩, .string ⟨#[100]⟩, .string ⟨#[101]⟩] 9
    #[.int .i64 1, .int .i64 2] #[.int .i64 3, .int .i64 4] #[.int .i64 3, .int .i64 4] 3
    #[.slice (some ⟨w.heap.size + 1 + 1, 0, none⟩) 2 2, .slice (some ⟨w.heap.size + 1 + 1 + 1, 0, none⟩) 2 2, .slice (some ⟨w.heap.size + 1 + 1 + 1 + 1, 0, none⟩) 2 2, .slice none 0 0, .slice none 0 0] 36 #[.bool false, .bool false, .bool false, .bool false, .bool false] 4
  have HT : Hid (TbIn _ M.man p ∧ Below w.heap.size w _) := Lib.hid (by
    rw [hp] at q ⊢
    refine ⟨⟨cel_box q.h1 _ rfl, row_box q.h5 _ ?_, cel_box q.h6 _ rfl, fun h => (by cases h), fun h => (by cases h), fun h => (by cases h), Nat.le_refl 5, Nat.le_refl 5, Nat.le_refl 5⟩, q.below⟩
    intro i hi
    match i, hi with
    | 0, _ => exact ⟨_, _, rfl, fun h => (by cases h), Nat.le_refl 2, cel_box q.h2 _ rfl⟩
    | 1, _ => exact ⟨_, _, rfl, fun h => (by cases h), Nat.le_refl 2, cel_box q.h3 _ rfl⟩
    | 2, _ => exact ⟨_, _, rfl, fun h => (by cases h), Nat.le_refl 2, cel_box q.h4 _ rfl⟩
    | 3, _ => exact ⟨_, _, rfl, fun _ => rfl, Nat.le_refl 0, Or.inl rfl⟩
    | 4, _ => exact ⟨_, _, rfl, fun _ => rfl, Nat.le_refl 0, Or.inl rfl⟩)
  rw [hp] at HT
  clear q hp
  have hmk : ∀ W : World, (Instr.makeSlice 24 (.int .i64 5) (.int .i64 5)).run Try.prog W = .ok (.slice (some ⟨W.heap.size, 0, none⟩) 5 5) (W.alloc (.cells #[.bool false, .bool false, .bool false, .bool false, .bool false] 4)) := fun W => by
    have h := make_bools 5 (by omega) W
    rw [show blsA 5 = #[.bool false, .bool false, .bool false, .bool false, .bool false] from by kernel_rfl] at h
    exact h
  go_enter Try.func31, Try.ntmps31
  go_wp2_with fail
  exact bodyPost_ret (v := tbV M.man ⟨some ⟨w.heap.size + 1, 0, none⟩, 5, some ⟨w.heap.size + 1 + 1 + 1 + 1 + 1, 0, none⟩, 5, some ⟨w.heap.size + 1 + 1 + 1 + 1 + 1 + 1, 0, none⟩, 5⟩) (by simp [results, Try.results31, go_sem, M.man]) rfl ⟨_, rfl, HT.out.1, HT.out.2⟩

end Go.Proofs.Ythacjdlohmkpoaa

namespace Go.Proofs.Ythacjdlohmkpoaa
open Go.RowKit

theorem mask_bit (m a : Nat) (hm : m < 65536) : (bits .and .u16 ((m : Int) / 2 ^ a) 1 == 1) = m.testBit a := by
  have e1 : ((m : Int) / 2 ^ a) = ((m / 2 ^ a : Nat) : Int) := by rw [Int.natCast_ediv, Int.natCast_pow]; rfl
  have h1 : m / 2 ^ a < 65536 := Nat.lt_of_le_of_lt (Nat.div_le_self _ _) hm
  rw [e1, show (1 : Int) = ((1 : Nat) : Int) from rfl, u16_and_nat _ _ h1 (by omega), Nat.and_one_is_mod, Nat.testBit_eq_decide_div_mod_eq, Bool.eq_iff_iff]
  simp only [beq_iff_eq, decide_eq_true_eq]
  omega
theorem mask_or (m a : Nat) (hm : m < 65536) (ha : a < 16) : bits .or .u16 (m : Int) (IntKind.u16.wrap (2 ^ a)) = ((m ||| 2 ^ a : Nat) : Int) := by
  have h2 : 2 ^ a < 65536 := Nat.pow_lt_pow_right (a := 2) (by omega) (show a < 16 from ha)
  have e : IntKind.u16.wrap (2 ^ a) = ((2 ^ a : Nat) : Int) := by
    rw [IntKind.wrap_u16, show ((2 : Int) ^ a) = ((2 ^ a : Nat) : Int) from (by rw [Int.natCast_pow]; rfl)]
    exact Int.emod_eq_of_lt (Int.natCast_nonneg _) (Int.ofNat_lt.2 h2)
  rw [e, u16_or_nat _ _ hm h2]

namespace M
/-- Some numbers as bits. -/
def ofN (l : List Int) : Nat := l.foldl (fun m x => m ||| 2 ^ x.toNat) 0
theorem ofN_snoc (l : List Int) (x : Int) : ofN (l ++ [x]) = ofN l ||| 2 ^ x.toNat := by unfold ofN; rw [List.foldl_append]; rfl
theorem ofN_lt (l : List Int) (h : ∀ i, (hi : i < l.length) → 0 ≤ l[i] ∧ l[i] < 12) : ∀ k, k ≤ l.length → ofN (l.take k) < 4096 := by
  intro k
  induction k with
  | zero => intro _; rw [List.take_zero]; decide
  | succ k ih =>
    intro hk
    rw [List.take_succ_eq_append_getElem (by omega), ofN_snoc]
    have := h k (by omega)
    exact Nat.or_lt_two_pow (n := 12) (ih (by omega)) (Nat.pow_lt_pow_right (a := 2) (by omega) (by omega))
theorem ofN_bit (l : List Int) (h : ∀ x, x ∈ l → 0 ≤ x) (j : Nat) : (ofN l).testBit j = true ↔ (j : Int) ∈ l := by
  suffices ∀ l : List Int, (∀ x, x ∈ l → 0 ≤ x) → ∀ m : Nat, (l.foldl (fun m x => m ||| 2 ^ x.toNat) m).testBit j = true ↔ (m.testBit j = true ∨ (j : Int) ∈ l) by
    have := this l h 0
    simpa [ofN] using this
  intro l
  induction l with
  | nil => intro _ m; simp
  | cons x l ih =>
    intro h m
    rw [List.foldl_cons, ih (fun y hy => h y (List.mem_cons_of_mem _ hy)), Nat.testBit_or, Nat.testBit_two_pow, Bool.or_eq_true, decide_eq_true_eq, List.mem_cons]
    have hx := h x List.mem_cons_self
    constructor
    · rintro ((q | q) | q)
      · exact Or.inl q
      · exact Or.inr (Or.inl (by omega))
      · exact Or.inr (Or.inr q)
    · rintro (q | q | q)
      · exact Or.inl (Or.inl q)
      · exact Or.inl (Or.inr (by omega))
      · exact Or.inr q
/-- The first numbers whose bits are set, ascending. -/
def listN (m k : Nat) : List Int := ((List.range k).filter m.testBit).map fun (x : Nat) => (x : Int)
theorem listN_yes (m k : Nat) (h : m.testBit k = true) : listN m (k + 1) = listN m k ++ [(k : Int)] := by unfold listN; rw [List.range_succ, List.filter_append, List.map_append]; simp [h]
theorem listN_no (m k : Nat) (h : m.testBit k = false) : listN m (k + 1) = listN m k := by unfold listN; rw [List.range_succ, List.filter_append, List.map_append]; simp [h]
theorem listN_le (m k : Nat) : (listN m k).length ≤ k := by
  unfold listN
  rw [List.length_map]
  exact Nat.le_trans (List.length_filter_le _ _) (by rw [List.length_range]; exact Nat.le_refl _)
theorem listN_mem (m k : Nat) (x : Int) : x ∈ listN m k ↔ ∃ j : Nat, x = j ∧ j < k ∧ m.testBit j = true := by
  unfold listN
  simp only [List.mem_map, List.mem_filter, List.mem_range]
  constructor
  · rintro ⟨j, ⟨h1, h2⟩, rfl⟩; exact ⟨j, rfl, h1, h2⟩
  · rintro ⟨j, rfl, h1, h2⟩; exact ⟨j, ⟨h1, h2⟩, rfl⟩
end M

set_option maxHeartbeats 1000000 in
set_option maxRecDepth 100000 in
theorem has_any (m a : Nat) (w : World) (hm : m < 65536) (ha : a < 16) : Calls Try.prog 67 #[.int .u16 m, .int .i64 a] w fun e w' => e = .returned (.bool (m.testBit a)) ∧ w = w' := by
  have HR := Lib.hid (mask_bit m a hm)
  go_enter Try.func67, Try.ntmps67
  go_wp2_with fail
  go_ret
  exact ⟨ret_bool HR.out, rfl⟩

set_option maxHeartbeats 1000000 in
set_option maxRecDepth 100000 in
theorem of_any (a : Option Addr) (c : Nat) (l : List Int) (w : World) (hl : l.length ≤ 1000000) (ho : IntSl w a l) (hb : ∀ i, (h : i < l.length) → 0 ≤ l[i] ∧ l[i] < 12) :
    Calls Try.prog 60 #[.slice a l.length c] w fun e w' => e = .returned (.int .u16 (M.ofN l)) ∧ w = w' := by
  have HO := Lib.hid ho
  have HB := Lib.hid hb
  clear ho hb
  go_enter Try.func60, Try.ntmps60
  go_wp2_with fail
  go_loop [3, 8] (fun s i => ∃ k : Nat, ∃ m : Nat, k ≤ l.length ∧ i = .int .i64 k ∧ s = .int .u16 m ∧ Hid (m = M.ofN (l.take k))) (fun _ i => l.length - (intOf i).toNat)
  case atStart => exact ⟨0, 0, by omega, rfl, rfl, Lib.hid rfl⟩
  case round =>
    obtain ⟨k, m, hk, rfl, rfl, HM⟩ := hrel
    by_cases hkl : k < l.length
    · obtain ⟨b, off, rfl, ha⟩ := HO.out.at hkl
      have c0 := ha.at_ k hkl
      have hq := HB.out k hkl
      have hm : m < 65536 := by rw [HM.out]; exact Nat.lt_trans (M.ofN_lt l HB.out k hk) (by omega)
      have hnx : m ||| 2 ^ (l[k]).toNat = M.ofN (l.take (k + 1)) := by rw [List.take_succ_eq_append_getElem hkl, M.ofN_snoc, HM.out]
      obtain ⟨x, hx⟩ : ∃ x : Nat, l[k] = (x : Int) := ⟨(l[k]).toNat, by omega⟩
      rw [hx] at c0 hq hnx
      rw [Int.toNat_natCast] at hnx
      have hor := mask_or m x hm (by omega)
      have HN := Lib.hid hnx
      have HOR := Lib.hid hor
      clear hx ha hnx hor
      have n1 : (k : Int) < (l.length : Int) := by omega
      have n2 : (0 : Int) ≤ (k : Int) := by omega
      go_wp2_with fail
      go_round
      case rel => exact ⟨k + 1, m ||| 2 ^ x, by omega, by go_num, by rw [HOR.out], HN⟩
      case measure => simp [intOf]; omega
    · obtain rfl : k = l.length := by omega
      have m1 : decide ((l.length : Int) < (l.length : Int)) = false := decide_eq_false (by omega)
      have hr : m = M.ofN l := by rw [HM.out, List.take_length]
      have HR := Lib.hid hr
      clear hr
      go_wp2_with fail
      go_ret
      exact ⟨ret_int (by rw [HR.out]), rfl⟩

abbrev intCells (l : List Int) : List Value := l.map (Value.int .i64)
theorem intInfo : (Try.prog.info? 3).map (fun i => (i.zero, i.size, i.bytes)) = some (some (.int .i64 0), 1, 8) := by kernel_rfl
/-- A result that is a list of numbers. -/
def IntsPost (l : List Int) (w : World) (e : Ending) (w' : World) : Prop := ∃ a c, e = .returned (.slice a l.length c) ∧ (a = none → c = 0) ∧ l.length ≤ c ∧ IntSl w' a l ∧ Below w.heap.size w w'
theorem own_int {w : World} {base : Nat} {v : Value} {l : List Int} (h : w.ownsRow base 3 1 v l.length (intCells l)) : ∃ a c, v = .slice a l.length c ∧ (a = none → c = 0) ∧ l.length ≤ c ∧ IntSl w a l := by
  rcases h.2 with ⟨rfl, h0⟩ | ⟨g, cap, cur, rfl, hb, hg, hn, hm, hs, ht⟩
  · exact ⟨none, 0, by rw [h0], fun _ => rfl, by omega, Or.inl (List.length_eq_zero_iff.1 h0)⟩
  · refine ⟨_, _, rfl, (fun h => by cases h), hn, Or.inr ⟨g, 0, rfl, ?_, ?_⟩⟩
    · rcases Nat.lt_or_ge g w.heap.size with h' | h'
      · exact h'
      · simp [Array.getElem?_eq_none h'] at hg
    · intro i hi
      have hc : (intCells l)[i]? = some (.int .i64 l[i]) := by simp [hi]
      simp only [World.cell?, hg, Nat.zero_add]
      rw [← ht, List.getElem?_take, if_pos (by omega)] at hc
      simpa using hc

set_option maxHeartbeats 2000000 in
set_option maxRecDepth 100000 in
theorem list_any (m : Nat) (w : World) (hm : m < 65536) : Calls Try.prog 41 #[.int .u16 m] w (IntsPost (M.listN m 12) w) := by
  obtain ⟨i0, hi, hz0, hz1, hz2⟩ := info_parts intInfo
  have HI0 := Lib.hid hi
  have HZ0 := Lib.hid hz0
  have HZ1 := Lib.hid hz1
  have HZ2 := Lib.hid hz2
  clear hi hz0 hz1 hz2
  have HH := Lib.hid fun a W (h : a < 16) => has_any m a W hm h
  go_enter Try.func41, Try.ntmps41
  go_wp2_with fail
  go_loopw [3, 5] (fun v i wr => ∃ k : Nat, k ≤ 12 ∧ i = .int .i64 k ∧ wr.ownsRow w.heap.size 3 1 v (M.listN m k).length (intCells (M.listN m k)) ∧ Below w.heap.size w wr) (fun _ i _ => 12 - (intOf i).toNat)
  case atStart => exact ⟨0, by omega, rfl, ⟨rfl, Or.inl ⟨rfl, rfl⟩⟩, Below.refl _ _⟩
  case round =>
    rename_i wr
    obtain ⟨k, hk, rfl, hO, hB⟩ := hrel
    have HO := Lib.hid hO
    clear hO
    obtain ⟨av, ac, rfl⟩ := own_slice HO.out
    by_cases hkl : k < 12
    · have n1 : (k : Int) < 12 := by omega
      have hcall := HH.out k wr (by omega)
      have hle := M.listN_le m k
      have hz := hB.size
      cases ht : m.testBit k with
      | false =>
        rw [ht] at hcall
        have HC := Lib.hid hcall
        have HN := Lib.hid (M.listN_no m k ht)
        clear hcall ht
        go_wp2_with fail
        refine HC.out.mono ?_
        rintro e w1 ⟨rfl, rfl⟩
        go_wp2_with fail
        go_roundw
        case rel => exact ⟨k + 1, by omega, by go_num, by rw [HN.out]; exact HO.out, hB⟩
        case measure => simp [intOf]; omega
      | true =>
        rw [ht] at hcall
        have HC := Lib.hid hcall
        have HN := Lib.hid (M.listN_yes m k ht)
        clear hcall ht
        go_wp2_with fail
        refine HC.out.mono ?_
        rintro e w1 ⟨rfl, rfl⟩
        have hi := HI0.out
        have hz0 := HZ0.out
        have hz1 := HZ1.out
        have hz2 := HZ2.out
        go_wp2_with (at_builtin; refine wpList_append_own _ rfl _ _ 36 rfl w.heap.size 3 i0 (.int .i64 0) 1 8 Try.underlying36 hi hz0 hz1 hz2 rfl (by decide) _ _ _ rfl (HO.out.alloc _) ⟨wr.heap.size, 0, none⟩ 1 1 [.int .i64 k] rfl rfl ?c1 ?c2 ?c3 ?c4 ?c5 ?_)
        case c1 =>
          intro j u hj
          match j, hj with
          | 0, hj => simp at hj; subst hj; simp [Addr.add]
        case c2 => intro u hu; simp at hu; subst hu; rfl
        case c3 => unfold maxLen; omega
        case c4 => omega
        case c5 => simp; omega
        intro v' w3 hown3 hgrow _
        have hB3 : Below w.heap.size w w3 := (hB.alloc hz _).grown hgrow (by simp; omega) (fun j hj => (HO.out.lt j hj).1)
        have R1 := Lib.hid hown3
        clear hown3 hgrow hi hz0 hz1 hz2
        obtain ⟨bv, bc, rfl⟩ := own_slice R1.out
        go_wp2_with fail
        go_roundw
        case rel =>
          refine ⟨k + 1, by omega, by go_num, ?_, hB3⟩
          rw [HN.out, List.length_append]
          have := R1.out
          rw [show intCells (M.listN m k ++ [(k : Int)]) = intCells (M.listN m k) ++ [.int .i64 k] from by unfold intCells; rw [List.map_append]; rfl]
          exact this
        case measure => simp [intOf]; omega
    · obtain rfl : k = 12 := by omega
      obtain ⟨a, c, e, h1, h2, h3⟩ := own_int HO.out
      cases e
      have HA := Lib.hid h3
      have H1 := Lib.hid h1
      have H2 := Lib.hid h2
      clear h1 h2 h3
      go_wp2_with fail
      go_ret
      exact ⟨_, _, rfl, H1.out, H2.out, HA.out, hB⟩
end Go.Proofs.Ythacjdlohmkpoaa
