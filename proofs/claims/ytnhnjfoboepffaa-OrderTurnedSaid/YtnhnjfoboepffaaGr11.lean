/- Texts of one's own, joined: OrdBa. -/
import Derived.Test.YtnhnjfoboepffaaGr1
import Derived.Test.YtnhnjfoboepffaaGr10
import Derived.Deep.DeepCutAuto
import Derived.Deep.RegionWith
import Derived.Laws.Concat
namespace Go.Proofs.Ytnhnjfoboepffaa
open Go.RowKit

namespace M
def dia : Tb := ⟨⟨#[108]⟩, [⟨#[97]⟩, ⟨#[98]⟩, ⟨#[99]⟩, ⟨#[100]⟩], [[1, 2], [3], [3], []], [false, false, false, true]⟩
def man : Tb := ⟨⟨#[109]⟩, [⟨#[97]⟩, ⟨#[98]⟩, ⟨#[99]⟩, ⟨#[100]⟩, ⟨#[101]⟩], [[1, 2], [3, 4], [3, 4], [], []], [false, false, false, false, false]⟩
end M
theorem cel_box {α : Type} {f : α → Value} {w : World} {B : Nat} {o : Array Value} {t : TypeId} (h : w.heap[B]? = some (.cells o t (0, 0))) (l : List α) (ho : o = (l.map f).toArray) : CelSl f w (some ⟨B, 0, none⟩) l := by
  refine Or.inr ⟨B, 0, rfl, ?_, fun i hi => ?_⟩
  · rcases Nat.lt_or_ge B w.heap.size with h' | h'
    · exact h'
    · simp [Array.getElem?_eq_none h'] at h
  · rw [Lib.cell_of_heap h, ho]
    simp [hi]
theorem row_box {w : World} {B : Nat} {o : Array Value} {t : TypeId} (h : w.heap[B]? = some (.cells o t (0, 0))) (l : List (List Int))
    (ho : ∀ i, (hi : i < l.length) → ∃ a c, o[i]? = some (.slice a l[i].length c) ∧ (a = none → c = 0) ∧ l[i].length ≤ c ∧ CelSl (Value.int .i64) w a l[i]) : RowSl w (some ⟨B, 0, none⟩) l := by
  refine Or.inr ⟨B, 0, rfl, ?_, fun i hi => ?_⟩
  · rcases Nat.lt_or_ge B w.heap.size with h' | h'
    · exact h'
    · simp [Array.getElem?_eq_none h'] at h
  · obtain ⟨a, c, h1, h2, h3, h4⟩ := ho i hi
    exact ⟨a, c, by rw [Lib.cell_of_heap h, Nat.zero_add]; exact h1, h2, h3, h4⟩
theorem heap_below {w w' : World} {B : Nat} {o : Obj} (h : w.heap[B]? = some o) (hB : Below w.heap.size w w') : w'.heap[B]? = some o := by
  rw [hB.block B (by rcases Nat.lt_or_ge B w.heap.size with h' | h'; exact h'; simp [Array.getElem?_eq_none h'] at h)]; exact h
/-- Where a table and its six blocks lie. -/
structure Six (w w' : World) (b : Array Value) (bt : TypeId) (s : Array Value) (st : TypeId) (r1 r2 r3 : Array Value) (rt : TypeId) (o : Array Value) (ot : TypeId) (z : Array Value) (zt : TypeId) : Prop where
  h0 : w'.heap[w.heap.size]? = some (.cells b bt (0, 0))
  h1 : w'.heap[w.heap.size + 1]? = some (.cells s st (0, 0))
  h2 : w'.heap[w.heap.size + 1 + 1]? = some (.cells r1 rt (0, 0))
  h3 : w'.heap[w.heap.size + 1 + 1 + 1]? = some (.cells r2 rt (0, 0))
  h4 : w'.heap[w.heap.size + 1 + 1 + 1 + 1]? = some (.cells r3 rt (0, 0))
  h5 : w'.heap[w.heap.size + 1 + 1 + 1 + 1 + 1]? = some (.cells o ot (0, 0))
  h6 : w'.heap[w.heap.size + 1 + 1 + 1 + 1 + 1 + 1]? = some (.cells z zt (0, 0))
  below : Below w.heap.size w w'
theorem six (w : World) (b : Array Value) (bt : TypeId) (s : Array Value) (st : TypeId) (r1 r2 r3 : Array Value) (rt : TypeId) (o : Array Value) (ot : TypeId) (z : Array Value) (zt : TypeId) :
    Six w (((((((w.alloc (.cells b bt)).alloc (.cells s st)).alloc (.cells r1 rt)).alloc (.cells r2 rt)).alloc (.cells r3 rt)).alloc (.cells o ot)).alloc (.cells z zt)) b bt s st r1 r2 r3 rt o ot z zt := by
  have a0 := box_new w b bt
  obtain ⟨w1, e1⟩ : ∃ w1, w.alloc (.cells b bt) = w1 := ⟨_, rfl⟩
  have s1 : w1.heap.size = w.heap.size + 1 := by rw [← e1, World.size_alloc]
  have b1 : Below w.heap.size w w1 := by rw [← e1]; exact below1 _ _
  rw [e1] at a0 ⊢
  have a1 := box_new w1 s st
  obtain ⟨w2, e2⟩ : ∃ w2, w1.alloc (.cells s st) = w2 := ⟨_, rfl⟩
  have s2 : w2.heap.size = w1.heap.size + 1 := by rw [← e2, World.size_alloc]
  have b2 : Below w1.heap.size w1 w2 := by rw [← e2]; exact below1 _ _
  rw [e2] at a1 ⊢
  have a2 := box_new w2 r1 rt
  obtain ⟨w3, e3⟩ : ∃ w3, w2.alloc (.cells r1 rt) = w3 := ⟨_, rfl⟩
  have s3 : w3.heap.size = w2.heap.size + 1 := by rw [← e3, World.size_alloc]
  have b3 : Below w2.heap.size w2 w3 := by rw [← e3]; exact below1 _ _
  rw [e3] at a2 ⊢
  have a3 := box_new w3 r2 rt
  obtain ⟨w4, e4⟩ : ∃ w4, w3.alloc (.cells r2 rt) = w4 := ⟨_, rfl⟩
  have s4 : w4.heap.size = w3.heap.size + 1 := by rw [← e4, World.size_alloc]
  have b4 : Below w3.heap.size w3 w4 := by rw [← e4]; exact below1 _ _
  rw [e4] at a3 ⊢
  have a4 := box_new w4 r3 rt
  obtain ⟨w5, e5⟩ : ∃ w5, w4.alloc (.cells r3 rt) = w5 := ⟨_, rfl⟩
  have s5 : w5.heap.size = w4.heap.size + 1 := by rw [← e5, World.size_alloc]
  have b5 : Below w4.heap.size w4 w5 := by rw [← e5]; exact below1 _ _
  rw [e5] at a4 ⊢
  have a5 := box_new w5 o ot
  obtain ⟨w6, e6⟩ : ∃ w6, w5.alloc (.cells o ot) = w6 := ⟨_, rfl⟩
  have s6 : w6.heap.size = w5.heap.size + 1 := by rw [← e6, World.size_alloc]
  have b6 : Below w5.heap.size w5 w6 := by rw [← e6]; exact below1 _ _
  rw [e6] at a5 ⊢
  have a6 := box_new w6 z zt
  obtain ⟨w7, e7⟩ : ∃ w7, w6.alloc (.cells z zt) = w7 := ⟨_, rfl⟩
  have b7 : Below w6.heap.size w6 w7 := by rw [← e7]; exact below1 _ _
  rw [e7] at a6 ⊢
  have d6 := below2 b6 b7
  have d5 := below2 b5 d6
  have d4 := below2 b4 d5
  have d3 := below2 b3 d4
  have d2 := below2 b2 d3
  have d1 := below2 b1 d2
  rw [s6, s5, s4, s3, s2, s1] at a6
  rw [s5, s4, s3, s2, s1] at a5
  rw [s4, s3, s2, s1] at a4
  rw [s3, s2, s1] at a3
  rw [s2, s1] at a2
  rw [s1] at a1
  exact ⟨heap_below a0 d2, heap_below a1 d3, heap_below a2 d4, heap_below a3 d5, heap_below a4 d6, heap_below a5 b7, a6, d1⟩

set_option maxHeartbeats 4000000 in
set_option maxRecDepth 100000 in
theorem diamond_any (w : World) : Calls Try.prog 23 #[] w fun e w' => ∃ p, e = .returned (tbV M.dia p) ∧ TbIn w' M.dia p ∧ Below w.heap.size w w' := by
  obtain ⟨p, hp⟩ : ∃ p : Tp, p = ⟨some ⟨w.heap.size + 1, 0, none⟩, 4, some ⟨w.heap.size + 1 + 1 + 1 + 1 + 1, 0, none⟩, 4, some ⟨w.heap.size + 1 + 1 + 1 + 1 + 1 + 1, 0, none⟩, 4⟩ := ⟨_, rfl⟩
  have q := six w (tbA M.dia p) 26
    #[.string ⟨#[97]⟩, .string ⟨#[98]⟩, .string ⟨#[99]⟩, .string ⟨#[100]⟩] 9
    #[.int .i64 1, .int .i64 2] #[.int .i64 3] #[.int .i64 3] 3
    #[.slice (some ⟨w.heap.size + 1 + 1, 0, none⟩) 2 2, .slice (some ⟨w.heap.size + 1 + 1 + 1, 0, none⟩) 1 1, .slice (some ⟨w.heap.size + 1 + 1 + 1 + 1, 0, none⟩) 1 1, .slice none 0 0] 37 #[.bool false, .bool false, .bool false, .bool true] 4
  have HT : Hid (TbIn _ M.dia p ∧ Below w.heap.size w _) := Lib.hid (by
    rw [hp] at q ⊢
    refine ⟨⟨cel_box q.h1 _ rfl, row_box q.h5 _ ?_, cel_box q.h6 _ rfl, fun h => (by cases h), fun h => (by cases h), fun h => (by cases h), Nat.le_refl 4, Nat.le_refl 4, Nat.le_refl 4⟩, q.below⟩
    intro i hi
    match i, hi with
    | 0, _ => exact ⟨_, _, rfl, fun h => (by cases h), Nat.le_refl 2, cel_box q.h2 _ rfl⟩
    | 1, _ => exact ⟨_, _, rfl, fun h => (by cases h), Nat.le_refl 1, cel_box q.h3 _ rfl⟩
    | 2, _ => exact ⟨_, _, rfl, fun h => (by cases h), Nat.le_refl 1, cel_box q.h4 _ rfl⟩
    | 3, _ => exact ⟨_, _, rfl, fun _ => rfl, Nat.le_refl 0, Or.inl rfl⟩)
  rw [hp] at HT
  clear q hp
  go_enter Try.func23, Try.ntmps23
  go_wp2_with fail
  exact bodyPost_ret (v := tbV M.dia ⟨some ⟨w.heap.size + 1, 0, none⟩, 4, some ⟨w.heap.size + 1 + 1 + 1 + 1 + 1, 0, none⟩, 4, some ⟨w.heap.size + 1 + 1 + 1 + 1 + 1 + 1, 0, none⟩, 4⟩) (by simp [results, Try.results23, go_sem, M.dia]) rfl ⟨_, rfl, HT.out.1, HT.out.2⟩

set_option maxHeartbeats 4000000 in
set_option maxRecDepth 100000 in
theorem many_any (w : World) : Calls Try.prog 24 #[] w fun e w' => ∃ p, e = .returned (tbV M.man p) ∧ TbIn w' M.man p ∧ Below w.heap.size w w' := by
  obtain ⟨p, hp⟩ : ∃ p : Tp, p = ⟨some ⟨w.heap.size + 1, 0, none⟩, 5, some ⟨w.heap.size + 1 + 1 + 1 + 1 + 1, 0, none⟩, 5, some ⟨w.heap.size + 1 + 1 + 1 + 1 + 1 + 1, 0, none⟩, 5⟩ := ⟨_, rfl⟩
  have q := six w (tbA M.man p) 26
    #[.string ⟨#[97]⟩, .string ⟨#[98]⟩, .string ⟨#[99]⟩, .string ⟨#[100]⟩, .string ⟨#[101]⟩] 9
    #[.int .i64 1, .int .i64 2] #[.int .i64 3, .int .i64 4] #[.int .i64 3, .int .i64 4] 3
    #[.slice (some ⟨w.heap.size + 1 + 1, 0, none⟩) 2 2, .slice (some ⟨w.heap.size + 1 + 1 + 1, 0, none⟩) 2 2, .slice (some ⟨w.heap.size + 1 + 1 + 1 + 1, 0, none⟩) 2 2, .slice none 0 0, .slice none 0 0] 37 #[.bool false, .bool false, .bool false, .bool false, .bool false] 4
  have HT : Hid (TbIn _ M.man p ∧ Below w.heap.size w _) := Lib.hid (by
    rw [hp] at q ⊢
    refine ⟨⟨cel_box q.h1 _ rfl, row_box q.h5 _ ?_, cel_box q.h6 _ rfl, fun h => (by cases h), fun h => (by cases h), fun h => (by cases h), Nat.le_refl 5, Nat.le_refl 5, Nat.le_refl 5⟩, q.below⟩
    intro i hi
    match i, hi with
    | 0, _ => exact ⟨_, _, rfl, fun h => (by cases h), Nat.le_refl 2, cel_box q.h2 _ rfl⟩
    | 1, _ => exact ⟨_, _, rfl, fun h => (by cases h), Nat.le_refl 2, cel_box q.h3 _ rfl⟩
    | 2, _ => exact ⟨_, _, rfl, fun h => (by cases h), Nat.le_refl 2, cel_box q.h4 _ rfl⟩
    | 3, _ => exact ⟨_, _, rfl, fun _ => rfl, Nat.le_refl 0, Or.inl rfl⟩
    | 4, _ => exact ⟨_, _, rfl, fun _ => rfl, Nat.le_refl 0, Or.inl rfl⟩)
  rw [hp] at HT
  clear q hp
  have hmk : ∀ W : World, (Instr.makeSlice 24 (.int .i64 5) (.int .i64 5)).run Try.prog W = .ok (.slice (some ⟨W.heap.size, 0, none⟩) 5 5) (W.alloc (.cells #[.bool false, .bool false, .bool false, .bool false, .bool false] 4)) := fun W => by
    have h := make_bools 5 (by omega) W
    rw [show blsA 5 = #[.bool false, .bool false, .bool false, .bool false, .bool false] from by kernel_rfl] at h
    exact h
  go_enter Try.func24, Try.ntmps24
  go_wp2_with fail
  exact bodyPost_ret (v := tbV M.man ⟨some ⟨w.heap.size + 1, 0, none⟩, 5, some ⟨w.heap.size + 1 + 1 + 1 + 1 + 1, 0, none⟩, 5, some ⟨w.heap.size + 1 + 1 + 1 + 1 + 1 + 1, 0, none⟩, 5⟩) (by simp [results, Try.results24, go_sem, M.man]) rfl ⟨_, rfl, HT.out.1, HT.out.2⟩

end Go.Proofs.Ytnhnjfoboepffaa
