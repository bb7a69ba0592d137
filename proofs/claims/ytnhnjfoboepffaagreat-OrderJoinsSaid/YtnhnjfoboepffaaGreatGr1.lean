/- Texts of one's own, joined: BasA, BasE, BasF. -/
import Derived.Test.YtnhnjfoboepffaaGreatProg
import Derived.WalkKit
import Derived.WalkSpells
import Derived.Lib.Hide
import Derived.Deep.QuietTactic
import Derived.BigQuiet
import Derived.StillTailTactics
import Derived.IntWalk
import Derived.OwnWalk
import Derived.Laws.AppendOwn
import Derived.Laws.AppendOwnNone
import Derived.Deep.RegionHeldLaw
import Derived.Lib.Builder
import Derived.Lib.Buffer
import Derived.Laws.CopyRow
namespace Go.Proofs.YtnhnjfoboepffaaGreat
open Go.RowKit

theorem ret_int {k : IntKind} {a b : Int} (h : a = b) : Ending.returned (.int k a) = .returned (.int k b) := by rw [h]
theorem ret_bool {a b : Bool} (h : a = b) : Ending.returned (.bool a) = .returned (.bool b) := by rw [h]
theorem ret_str {a b : ByteArray} (h : a = b) : Ending.returned (.string a) = .returned (.string b) := by rw [h]
theorem bcell {W w1 : World} (hb : Below W.heap.size W w1) : (∀ b o, b < W.heap.size → w1.cell? ⟨b, o, none⟩ = W.cell? ⟨b, o, none⟩) ∧ (∀ b o, b < W.heap.size → w1.frozen? ⟨b, o, none⟩ = W.frozen? ⟨b, o, none⟩) :=
  ⟨fun b o h => hb.cell (p := ⟨b, o, none⟩) h, fun b o h => hb.frozen (p := ⟨b, o, none⟩) h⟩
theorem below1 (w : World) (o : Obj) : Below w.heap.size w (w.alloc o) := (Below.refl _ _).alloc (Nat.le_refl _) _
theorem below2 {w W w1 : World} (h1 : Below w.heap.size w W) (h2 : Below W.heap.size W w1) : Below w.heap.size w w1 := h1.trans (h2.mono h1.size)
theorem belowA {w w1 : World} (h : Below w.heap.size w w1) (o : Obj) : Below w.heap.size w (w1.alloc o) := h.alloc h.size o
theorem belowN {B : Nat} {a w : World} (h : Below B a w) (n : Nat) : Below B a (w.drewN n) := ⟨h.os, h.tape, h.output, h.size, h.block⟩
theorem cell_below {w w' : World} {p : Addr} {v : Value} (h : w.cell? p = some v) (hB : Below w.heap.size w w') : w'.cell? p = some v := by rw [hB.cell (World.block_lt_of_cell? w p h)]; exact h
theorem own_below {w w' : World} {base : Nat} {e : TypeId} {size : Nat} {v : Value} {n : Nat} {xs : List Value} (h : w.ownsRow base e size v n xs) (hb : Below w.heap.size w w') : w'.ownsRow base e size v n xs :=
  h.kept (row := none) ⟨hb.os, hb.tape, hb.output, hb.size, fun k hk _ => hb.block k hk⟩ (by cases hv : v.ownBlock <;> simp)
theorem own_slice {w : World} {base : Nat} {e : TypeId} {size : Nat} {v : Value} {n : Nat} {xs : List Value} (h : w.ownsRow base e size v n xs) : ∃ a c, v = .slice a n c := by
  rcases h.2 with ⟨rfl, h0⟩ | ⟨g, cap, cur, rfl, _⟩
  · exact ⟨none, 0, by rw [h0]⟩
  · exact ⟨_, _, rfl⟩
theorem own_base {w : World} {b b' : Nat} {e : TypeId} {size : Nat} {v : Value} {n : Nat} {xs : List Value} (h : w.ownsRow b e size v n xs) (hb : b' ≤ b) : w.ownsRow b' e size v n xs := by
  refine ⟨h.1, ?_⟩
  rcases h.2 with h | ⟨g, cap, cur, rfl, h1, h2⟩
  · exact Or.inl h
  · exact Or.inr ⟨g, cap, cur, rfl, Nat.le_trans hb h1, h2⟩
theorem box_at (w w1 : World) (o : Array Value) (t : TypeId) (hB : Below (w.alloc (.cells o t)).heap.size (w.alloc (.cells o t)) w1) : w1.heap[w.heap.size]? = some (.cells o t (0, 0)) ∧ Below w.heap.size w w1 ∧ w.heap.size < w1.heap.size := by
  refine ⟨?_, below2 (below1 _ _) hB, ?_⟩
  · rw [hB.block _ (by simp)]; exact (MapKept.heap_alloc w _).1
  · have := hB.size; simp at this; omega
theorem box_new (w : World) (o : Array Value) (t : TypeId) : (w.alloc (.cells o t)).heap[w.heap.size]? = some (.cells o t (0, 0)) := (MapKept.heap_alloc w _).1

/-- A list as it lies in memory, a cell for each element. -/
structure CelAt {α : Type} (f : α → Value) (w : World) (b off : Nat) (l : List α) : Prop where
  lt : b < w.heap.size
  at_ : ∀ i, (h : i < l.length) → w.cell? ⟨b, off + i, none⟩ = some (f l[i])
def CelSl {α : Type} (f : α → Value) (w : World) (a : Option Addr) (l : List α) : Prop := l = [] ∨ ∃ b off, a = some ⟨b, off, none⟩ ∧ CelAt f w b off l
theorem CelAt.below {α : Type} {f : α → Value} {w w' : World} {b off : Nat} {l : List α} (h : CelAt f w b off l) (hB : Below w.heap.size w w') : CelAt f w' b off l :=
  ⟨Nat.lt_of_lt_of_le h.lt hB.size, fun i hi => cell_below (h.at_ i hi) hB⟩
theorem CelSl.below {α : Type} {f : α → Value} {w w' : World} {a : Option Addr} {l : List α} (h : CelSl f w a l) (hB : Below w.heap.size w w') : CelSl f w' a l := by
  rcases h with h | ⟨b, off, e, h⟩
  · exact Or.inl h
  · exact Or.inr ⟨b, off, e, h.below hB⟩
theorem CelSl.at {α : Type} {f : α → Value} {w : World} {a : Option Addr} {l : List α} (h : CelSl f w a l) {i : Nat} (hi : i < l.length) : ∃ b off, a = some ⟨b, off, none⟩ ∧ CelAt f w b off l := by
  rcases h with h | h
  · rw [h] at hi; simp at hi
  · exact h
theorem CelSl.upto {α : Type} {f : α → Value} {w : World} {a : Option Addr} {l : List α} (h : CelSl f w a l) (p : Nat) : CelSl f w a (l.take p) := by
  rcases h with rfl | ⟨b, off, e, h⟩
  · exact Or.inl (by simp)
  · refine Or.inr ⟨b, off, e, h.lt, fun i hi => ?_⟩
    simp only [List.length_take] at hi
    simp only [List.getElem_take]
    exact h.at_ i (by omega)
abbrev StrSl := @CelSl ByteArray Value.string
abbrev IntSl := @CelSl Int (Value.int .i64)
abbrev BoolSl := @CelSl Bool Value.bool
/-- Lists of numbers, each one a slice of its own. -/
structure RowAt (w : World) (b off : Nat) (l : List (List Int)) : Prop where
  lt : b < w.heap.size
  at_ : ∀ i, (h : i < l.length) → ∃ a c, w.cell? ⟨b, off + i, none⟩ = some (.slice a l[i].length c) ∧ (a = none → c = 0) ∧ l[i].length ≤ c ∧ IntSl w a l[i]
def RowSl (w : World) (a : Option Addr) (l : List (List Int)) : Prop := l = [] ∨ ∃ b off, a = some ⟨b, off, none⟩ ∧ RowAt w b off l
theorem RowAt.below {w w' : World} {b off : Nat} {l : List (List Int)} (h : RowAt w b off l) (hB : Below w.heap.size w w') : RowAt w' b off l :=
  ⟨Nat.lt_of_lt_of_le h.lt hB.size, fun i hi => by
    obtain ⟨a, c, h1, h2, h3, h4⟩ := h.at_ i hi
    exact ⟨a, c, cell_below h1 hB, h2, h3, h4.below hB⟩⟩
theorem RowSl.below {w w' : World} {a : Option Addr} {l : List (List Int)} (h : RowSl w a l) (hB : Below w.heap.size w w') : RowSl w' a l := by
  rcases h with h | ⟨b, off, e, h⟩
  · exact Or.inl h
  · exact Or.inr ⟨b, off, e, h.below hB⟩
theorem RowSl.at {w : World} {a : Option Addr} {l : List (List Int)} (h : RowSl w a l) {i : Nat} (hi : i < l.length) : ∃ b off, a = some ⟨b, off, none⟩ ∧ RowAt w b off l := by
  rcases h with h | h
  · rw [h] at hi; simp at hi
  · exact h
end Go.Proofs.YtnhnjfoboepffaaGreat

namespace Go.Proofs.YtnhnjfoboepffaaGreat
open Go.RowKit

theorem run_storeAt_row {P : Program} (w : World) (t : TypeId) (i : TypeInfo) (hi : P.info? t = some i) (b : Nat) (cur vs : Array Value) (T : TypeId) (hw : w.heap[b]? = some (.cells cur T (0, 0))) (hsz : cur.size = vs.size) (hti : i.size = vs.size)
    (h1 : ∀ v ∈ vs.toList, v.oneCell' = true) : (Instr.storeAt t (.pointer (some ⟨b, 0, none⟩)) (.agg vs)).run P w = .ok () (w.setRow b vs) := by
  have hr := run_storeCells_at P b 0 T vs.toList 0 cur w hw (by simp [hsz]) h1
  have e : (cur.toList.take (0 + 0) ++ vs.toList ++ cur.toList.drop (0 + 0 + vs.toList.length)).toArray = vs := by
    rw [Nat.zero_add, Nat.zero_add, List.take_zero, List.nil_append, List.drop_of_length_le (by simp [hsz]), List.append_nil]
  rw [e] at hr
  simp [Instr.storeAt, Instr.sureAddr, storeVar, sizeOf, typeInfo, hi, hti, Value.cells, hr]
theorem wpList_store_row {P : Program} (w : World) {ops : Array Oper} {rest : List Oper} {o : Oper} {a : Act} {Q : Exit → Act → World → Prop}
    (hg : o.guard = none) (t : TypeId) (x y : Operand) (hop : o.op = Op.store t x y) (hd : o.dst = none) (i : TypeInfo) (hi : P.info? t = some i) (b : Nat) (cur vs : Array Value) (T : TypeId) (hx : a.eval x = .pointer (some ⟨b, 0, none⟩)) (hy : a.eval y = .agg vs)
    (hw : w.heap[b]? = some (.cells cur T (0, 0))) (hsz : cur.size = vs.size) (hti : i.size = vs.size) (h1 : ∀ v ∈ vs.toList, v.oneCell' = true)
    (hK : ∀ w', w'.heap[b]? = some (.cells vs T (0, 0)) → w.grownBy w' (some b) → wpList P ops Q rest a w') : wpList P ops Q (o :: rest) a w := by
  refine wpList_plain hg fun K hK' => ?_
  have hrun := run_storeAt_row (P := P) w t i hi b cur vs T hw hsz hti h1
  unfold Oper.wp
  simp [execOp, hop, hx, hy, hrun, Result.andThen]
  refine hK' _ _ ?_
  rw [hd]
  exact (hK _ (setRow_heap w b cur vs T _ hw) ⟨rfl, rfl, rfl, by simp [World.setRow], fun k _ hk => setRow_other w b k vs (fun e => hk (by simp [e]))⟩)
theorem run_loadAt_row {P : Program} (w : World) (t : TypeId) (i : TypeInfo) (hi : P.info? t = some i) (hag : (isAgg t).run P w = .ok true w) (b : Nat) (vs : Array Value) (T : TypeId) (hw : w.heap[b]? = some (.cells vs T (0, 0))) (hti : i.size = vs.size) :
    (Instr.loadAt t (.pointer (some ⟨b, 0, none⟩))).run P w = .ok (.agg vs) w := by
  have hr := run_loadCells_list (P := P) (w := w) ⟨b, 0, none⟩ vs.toList (fun j v hj => by
    have : (⟨b, 0, none⟩ : Addr).add j = ⟨b, j, none⟩ := by simp [Addr.add]; omega
    rw [this, Lib.cell_of_heap hw]
    rw [Array.getElem?_toList] at hj
    exact hj)
  rw [Array.length_toList, Array.toArray_toList] at hr
  simp [Instr.loadAt, Instr.sureAddr, loadVar, hag, sizeOf, typeInfo, hi, hti, hr]
theorem wpList_load_row {P : Program} (w : World) {ops : Array Oper} {rest : List Oper} {o : Oper} {a : Act} {Q : Exit → Act → World → Prop}
    (hg : o.guard = none) (t : TypeId) (x : Operand) (hop : o.op = Op.load t x) (i : TypeInfo) (hi : P.info? t = some i) (hag : (isAgg t).run P w = .ok true w) (b : Nat) (vs : Array Value) (T : TypeId) (hx : a.eval x = .pointer (some ⟨b, 0, none⟩))
    (hw : w.heap[b]? = some (.cells vs T (0, 0))) (hti : i.size = vs.size)
    (hK : wpList P ops Q rest (a.put o.dst (.agg vs)) w) : wpList P ops Q (o :: rest) a w := by
  refine wpList_plain hg fun K hK' => ?_
  have hrun := run_loadAt_row (P := P) w t i hi hag b vs T hw hti
  unfold Oper.wp
  simp [execOp, hop, hx, hrun, Result.andThen]
  exact hK' _ _ hK
end Go.Proofs.YtnhnjfoboepffaaGreat

namespace Go.Proofs.YtnhnjfoboepffaaGreat
open Go.RowKit

abbrev bl (s : ByteArray) : List UInt8 := s.data.toList
def bs (l : List UInt8) : ByteArray := ⟨l.toArray⟩
theorem bs_bl (s : ByteArray) : bs (bl s) = s := by cases s; simp [bs]
theorem bl_bs (l : List UInt8) : bl (bs l) = l := by simp [bs]
theorem bl_cat (a b : ByteArray) : bl (a ++ b) = bl a ++ bl b := by simp [bl, ByteArray.data_append]
theorem bl_len (s : ByteArray) : (bl s).length = s.size := Array.length_toList
theorem bl_ext {a b : ByteArray} (h : bl a = bl b) : a = b := by rw [← bs_bl a, ← bs_bl b, h]
theorem bs_size (l : List UInt8) : (bs l).size = l.length := by rw [← bl_len, bl_bs]
theorem ret_bs {s : ByteArray} {l : List UInt8} (h : bl s = l) : Ending.returned (.string s) = .returned (.string (bs l)) := by rw [← h, bs_bl]
end Go.Proofs.YtnhnjfoboepffaaGreat
