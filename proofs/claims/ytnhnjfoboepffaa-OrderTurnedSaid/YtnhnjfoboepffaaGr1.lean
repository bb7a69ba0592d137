/- Texts of one's own, joined: BasA, BasE, BasF, BasG, BasB, BasC, BasD, BasI, BasJ, BasK, BasM. -/
import Derived.Test.YtnhnjfoboepffaaProg
import Derived.WalkKit
import Derived.WalkSpells
import Derived.Lib.Hide
import Derived.Deep.QuietTactic
import Derived.BigQuiet
import Derived.StillTailTactics
import Derived.IntWalk
import Derived.OwnWalk
import Derived.Laws.AppendOwn
import Derived.Laws.AppendOwnNone
import Derived.Deep.RegionHeldLaw
import Derived.Lib.Builder
import Derived.Lib.Buffer
import Derived.Laws.CopyRow
import Derived.ArgAppend
import Derived.Laws.OwnMore
import Derived.Maps.AppendAt
import Derived.OrdersHeld
namespace Go.Proofs.Ytnhnjfoboepffaa
open Go.RowKit

theorem ret_int {k : IntKind} {a b : Int} (h : a = b) : Ending.returned (.int k a) = .returned (.int k b) := by rw [h]
theorem ret_bool {a b : Bool} (h : a = b) : Ending.returned (.bool a) = .returned (.bool b) := by rw [h]
theorem ret_str {a b : ByteArray} (h : a = b) : Ending.returned (.string a) = .returned (.string b) := by rw [h]
theorem bcell {W w1 : World} (hb : Below W.heap.size W w1) : (∀ b o, b < W.heap.size → w1.cell? ⟨b, o, none⟩ = W.cell? ⟨b, o, none⟩) ∧ (∀ b o, b < W.heap.size → w1.frozen? ⟨b, o, none⟩ = W.frozen? ⟨b, o, none⟩) :=
  ⟨fun b o h => hb.cell (p := ⟨b, o, none⟩) h, fun b o h => hb.frozen (p := ⟨b, o, none⟩) h⟩
theorem below1 (w : World) (o : Obj) : Below w.heap.size w (w.alloc o) := (Below.refl _ _).alloc (Nat.le_refl _) _
theorem below2 {w W w1 : World} (h1 : Below w.heap.size w W) (h2 : Below W.heap.size W w1) : Below w.heap.size w w1 := h1.trans (h2.mono h1.size)
theorem belowA {w w1 : World} (h : Below w.heap.size w w1) (o : Obj) : Below w.heap.size w (w1.alloc o) := h.alloc h.size o
theorem belowN {B : Nat} {a w : World} (h : Below B a w) (n : Nat) : Below B a (w.drewN n) := ⟨h.os, h.tape, h.output, h.size, h.block⟩
theorem cell_below {w w' : World} {p : Addr} {v : Value} (h : w.cell? p = some v) (hB : Below w.heap.size w w') : w'.cell? p = some v := by rw [hB.cell (World.block_lt_of_cell? w p h)]; exact h
theorem own_below {w w' : World} {base : Nat} {e : TypeId} {size : Nat} {v : Value} {n : Nat} {xs : List Value} (h : w.ownsRow base e size v n xs) (hb : Below w.heap.size w w') : w'.ownsRow base e size v n xs :=
  h.kept (row := none) ⟨hb.os, hb.tape, hb.output, hb.size, fun k hk _ => hb.block k hk⟩ (by cases hv : v.ownBlock <;> simp)
theorem own_slice {w : World} {base : Nat} {e : TypeId} {size : Nat} {v : Value} {n : Nat} {xs : List Value} (h : w.ownsRow base e size v n xs) : ∃ a c, v = .slice a n c := by
  rcases h.2 with ⟨rfl, h0⟩ | ⟨g, cap, cur, rfl, _⟩
  · exact ⟨none, 0, by rw [h0]⟩
  · exact ⟨_, _, rfl⟩
theorem own_base {w : World} {b b' : Nat} {e : TypeId} {size : Nat} {v : Value} {n : Nat} {xs : List Value} (h : w.ownsRow b e size v n xs) (hb : b' ≤ b) : w.ownsRow b' e size v n xs := by
  refine ⟨h.1, ?_⟩
  rcases h.2 with h | ⟨g, cap, cur, rfl, h1, h2⟩
  · exact Or.inl h
  · exact Or.inr ⟨g, cap, cur, rfl, Nat.le_trans hb h1, h2⟩
theorem box_at (w w1 : World) (o : Array Value) (t : TypeId) (hB : Below (w.alloc (.cells o t)).heap.size (w.alloc (.cells o t)) w1) : w1.heap[w.heap.size]? = some (.cells o t (0, 0)) ∧ Below w.heap.size w w1 ∧ w.heap.size < w1.heap.size := by
  refine ⟨?_, below2 (below1 _ _) hB, ?_⟩
  · rw [hB.block _ (by simp)]; exact (MapKept.heap_alloc w _).1
  · have := hB.size; simp at this; omega
theorem box_new (w : World) (o : Array Value) (t : TypeId) : (w.alloc (.cells o t)).heap[w.heap.size]? = some (.cells o t (0, 0)) := (MapKept.heap_alloc w _).1

/-- A list as it lies in memory, a cell for each element. -/
structure CelAt {α : Type} (f : α → Value) (w : World) (b off : Nat) (l : List α) : Prop where
  lt : b < w.heap.size
  at_ : ∀ i, (h : i < l.length) → w.cell? ⟨b, off + i, none⟩ = some (f l[i])
def CelSl {α : Type} (f : α → Value) (w : World) (a : Option Addr) (l : List α) : Prop := l = [] ∨ ∃ b off, a = some ⟨b, off, none⟩ ∧ CelAt f w b off l
theorem CelAt.below {α : Type} {f : α → Value} {w w' : World} {b off : Nat} {l : List α} (h : CelAt f w b off l) (hB : Below w.heap.size w w') : CelAt f w' b off l :=
  ⟨Nat.lt_of_lt_of_le h.lt hB.size, fun i hi => cell_below (h.at_ i hi) hB⟩
theorem CelSl.below {α : Type} {f : α → Value} {w w' : World} {a : Option Addr} {l : List α} (h : CelSl f w a l) (hB : Below w.heap.size w w') : CelSl f w' a l := by
  rcases h with h | ⟨b, off, e, h⟩
  · exact Or.inl h
  · exact Or.inr ⟨b, off, e, h.below hB⟩
theorem CelSl.at {α : Type} {f : α → Value} {w : World} {a : Option Addr} {l : List α} (h : CelSl f w a l) {i : Nat} (hi : i < l.length) : ∃ b off, a = some ⟨b, off, none⟩ ∧ CelAt f w b off l := by
  rcases h with h | h
  · rw [h] at hi; simp at hi
  · exact h
theorem CelSl.upto {α : Type} {f : α → Value} {w : World} {a : Option Addr} {l : List α} (h : CelSl f w a l) (p : Nat) : CelSl f w a (l.take p) := by
  rcases h with rfl | ⟨b, off, e, h⟩
  · exact Or.inl (by simp)
  · refine Or.inr ⟨b, off, e, h.lt, fun i hi => ?_⟩
    simp only [List.length_take] at hi
    simp only [List.getElem_take]
    exact h.at_ i (by omega)
abbrev StrSl := @CelSl ByteArray Value.string
abbrev IntSl := @CelSl Int (Value.int .i64)
abbrev BoolSl := @CelSl Bool Value.bool
/-- Lists of numbers, each one a slice of its own. -/
structure RowAt (w : World) (b off : Nat) (l : List (List Int)) : Prop where
  lt : b < w.heap.size
  at_ : ∀ i, (h : i < l.length) → ∃ a c, w.cell? ⟨b, off + i, none⟩ = some (.slice a l[i].length c) ∧ (a = none → c = 0) ∧ l[i].length ≤ c ∧ IntSl w a l[i]
def RowSl (w : World) (a : Option Addr) (l : List (List Int)) : Prop := l = [] ∨ ∃ b off, a = some ⟨b, off, none⟩ ∧ RowAt w b off l
theorem RowAt.below {w w' : World} {b off : Nat} {l : List (List Int)} (h : RowAt w b off l) (hB : Below w.heap.size w w') : RowAt w' b off l :=
  ⟨Nat.lt_of_lt_of_le h.lt hB.size, fun i hi => by
    obtain ⟨a, c, h1, h2, h3, h4⟩ := h.at_ i hi
    exact ⟨a, c, cell_below h1 hB, h2, h3, h4.below hB⟩⟩
theorem RowSl.below {w w' : World} {a : Option Addr} {l : List (List Int)} (h : RowSl w a l) (hB : Below w.heap.size w w') : RowSl w' a l := by
  rcases h with h | ⟨b, off, e, h⟩
  · exact Or.inl h
  · exact Or.inr ⟨b, off, e, h.below hB⟩
theorem RowSl.at {w : World} {a : Option Addr} {l : List (List Int)} (h : RowSl w a l) {i : Nat} (hi : i < l.length) : ∃ b off, a = some ⟨b, off, none⟩ ∧ RowAt w b off l := by
  rcases h with h | h
  · rw [h] at hi; simp at hi
  · exact h
end Go.Proofs.Ytnhnjfoboepffaa

namespace Go.Proofs.Ytnhnjfoboepffaa
open Go.RowKit

theorem run_storeAt_row {P : Program} (w : World) (t : TypeId) (i : TypeInfo) (hi : P.info? t = some i) (b : Nat) (cur vs : Array Value) (T : TypeId) (hw : w.heap[b]? = some (.cells cur T (0, 0))) (hsz : cur.size = vs.size) (hti : i.size = vs.size)
    (h1 : ∀ v ∈ vs.toList, v.oneCell' = true) : (Instr.storeAt t (.pointer (some ⟨b, 0, none⟩)) (.agg vs)).run P w = .ok () (w.setRow b vs) := by
  have hr := run_storeCells_at P b 0 T vs.toList 0 cur w hw (by simp [hsz]) h1
  have e : (cur.toList.take (0 + 0) ++ vs.toList ++ cur.toList.drop (0 + 0 + vs.toList.length)).toArray = vs := by
    rw [Nat.zero_add, Nat.zero_add, List.take_zero, List.nil_append, List.drop_of_length_le (by simp [hsz]), List.append_nil]
  rw [e] at hr
  simp [Instr.storeAt, Instr.sureAddr, storeVar, sizeOf, typeInfo, hi, hti, Value.cells, hr]
theorem wpList_store_row {P : Program} (w : World) {ops : Array Oper} {rest : List Oper} {o : Oper} {a : Act} {Q : Exit → Act → World → Prop}
    (hg : o.guard = none) (t : TypeId) (x y : Operand) (hop : o.op = Op.store t x y) (hd : o.dst = none) (i : TypeInfo) (hi : P.info? t = some i) (b : Nat) (cur vs : Array Value) (T : TypeId) (hx : a.eval x = .pointer (some ⟨b, 0, none⟩)) (hy : a.eval y = .agg vs)
    (hw : w.heap[b]? = some (.cells cur T (0, 0))) (hsz : cur.size = vs.size) (hti : i.size = vs.size) (h1 : ∀ v ∈ vs.toList, v.oneCell' = true)
    (hK : ∀ w', w'.heap[b]? = some (.cells vs T (0, 0)) → w.grownBy w' (some b) → wpList P ops Q rest a w') : wpList P ops Q (o :: rest) a w := by
  refine wpList_plain hg fun K hK' => ?_
  have hrun := run_storeAt_row (P := P) w t i hi b cur vs T hw hsz hti h1
  unfold Oper.wp
  simp [execOp, hop, hx, hy, hrun, Result.andThen]
  refine hK' _ _ ?_
  rw [hd]
  exact (hK _ (setRow_heap w b cur vs T _ hw) ⟨rfl, rfl, rfl, by simp [World.setRow], fun k _ hk => setRow_other w b k vs (fun e => hk (by simp [e]))⟩)
theorem run_loadAt_row {P : Program} (w : World) (t : TypeId) (i : TypeInfo) (hi : P.info? t = some i) (hag : (isAgg t).run P w = .ok true w) (b : Nat) (vs : Array Value) (T : TypeId) (hw : w.heap[b]? = some (.cells vs T (0, 0))) (hti : i.size = vs.size) :
    (Instr.loadAt t (.pointer (some ⟨b, 0, none⟩))).run P w = .ok (.agg vs) w := by
  have hr := run_loadCells_list (P := P) (w := w) ⟨b, 0, none⟩ vs.toList (fun j v hj => by
    have : (⟨b, 0, none⟩ : Addr).add j = ⟨b, j, none⟩ := by simp [Addr.add]; omega
    rw [this, Lib.cell_of_heap hw]
    rw [Array.getElem?_toList] at hj
    exact hj)
  rw [Array.length_toList, Array.toArray_toList] at hr
  simp [Instr.loadAt, Instr.sureAddr, loadVar, hag, sizeOf, typeInfo, hi, hti, hr]
theorem wpList_load_row {P : Program} (w : World) {ops : Array Oper} {rest : List Oper} {o : Oper} {a : Act} {Q : Exit → Act → World → Prop}
    (hg : o.guard = none) (t : TypeId) (x : Operand) (hop : o.op = Op.load t x) (i : TypeInfo) (hi : P.info? t = some i) (hag : (isAgg t).run P w = .ok true w) (b : Nat) (vs : Array Value) (T : TypeId) (hx : a.eval x = .pointer (some ⟨b, 0, none⟩))
    (hw : w.heap[b]? = some (.cells vs T (0, 0))) (hti : i.size = vs.size)
    (hK : wpList P ops Q rest (a.put o.dst (.agg vs)) w) : wpList P ops Q (o :: rest) a w := by
  refine wpList_plain hg fun K hK' => ?_
  have hrun := run_loadAt_row (P := P) w t i hi hag b vs T hw hti
  unfold Oper.wp
  simp [execOp, hop, hx, hrun, Result.andThen]
  exact hK' _ _ hK
end Go.Proofs.Ytnhnjfoboepffaa

namespace Go.Proofs.Ytnhnjfoboepffaa
open Go.RowKit

abbrev bl (s : ByteArray) : List UInt8 := s.data.toList
def bs (l : List UInt8) : ByteArray := ⟨l.toArray⟩
theorem bs_bl (s : ByteArray) : bs (bl s) = s := by cases s; simp [bs]
theorem bl_bs (l : List UInt8) : bl (bs l) = l := by simp [bs]
theorem bl_cat (a b : ByteArray) : bl (a ++ b) = bl a ++ bl b := by simp [bl, ByteArray.data_append]
theorem bl_len (s : ByteArray) : (bl s).length = s.size := Array.length_toList
theorem bl_ext {a b : ByteArray} (h : bl a = bl b) : a = b := by rw [← bs_bl a, ← bs_bl b, h]
theorem bs_size (l : List UInt8) : (bs l).size = l.length := by rw [← bl_len, bl_bs]
theorem ret_bs {s : ByteArray} {l : List UInt8} (h : bl s = l) : Ending.returned (.string s) = .returned (.string (bs l)) := by rw [← h, bs_bl]
end Go.Proofs.Ytnhnjfoboepffaa

namespace Go.Proofs.Ytnhnjfoboepffaa
open Go.RowKit

theorem strInfo : (Try.prog.info? 9).map (fun i => (i.zero, i.size, i.bytes)) = some (some (.string ⟨#[]⟩), 1, 16) := by kernel_rfl
/-- Texts in a block of the call's own. -/
def txtCs (l : List (List UInt8)) : List Value := l.map fun x => .string (bs x)
theorem txtCs_snoc (l : List (List UInt8)) (x : List UInt8) : txtCs (l ++ [x]) = txtCs l ++ [.string (bs x)] := by simp [txtCs]
theorem own_txt {w : World} {base : Nat} {v : Value} {n : Nat} {l : List (List UInt8)} (hl : l.length = n) (h : w.ownsRow base 9 1 v n (txtCs l)) (hn : 0 < n) : ∃ b c, v = .slice (some ⟨b, 0, none⟩) n c ∧ n ≤ c ∧ b < w.heap.size ∧ ∀ (j : Nat) (x : ByteArray), (l.map bs)[j]? = some x → w.cell? ⟨b, 0 + j, none⟩ = some (.string x) := by
  subst hl
  rcases h.2 with ⟨rfl, h0⟩ | ⟨g, cap, cur, rfl, hb, hg, hn, hm, hs, ht⟩
  · omega
  · refine ⟨g, cap, rfl, hn, ?_, fun j x hj => ?_⟩
    · rcases Nat.lt_or_ge g w.heap.size with h' | h'
      · exact h'
      · simp [Array.getElem?_eq_none h'] at hg
    · obtain ⟨hjl, e⟩ := List.getElem?_eq_some_iff.1 hj
      rw [List.length_map] at hjl
      have hc : (txtCs l)[j]? = some (.string x) := by
        rw [← e]; simp [txtCs, hjl]
      simp only [World.cell?, hg, Nat.zero_add]
      rw [← ht, List.getElem?_take, if_pos (by omega)] at hc
      simpa using hc
end Go.Proofs.Ytnhnjfoboepffaa

namespace Go.Proofs.Ytnhnjfoboepffaa
open Go.RowKit

/-- A list of numbers somewhere in a block of the call's own, with all its room. -/
structure QueAt (w : World) (base b off cap : Nat) (l : List Int) : Prop where
  base_ : base ≤ b
  le : l.length ≤ cap
  at_ : ∀ i, (h : i < l.length) → w.cell? ⟨b, off + i, none⟩ = some (.int .i64 l[i])
  room : ∀ i, i < cap → (w.cell? ⟨b, off + i, none⟩).isSome = true ∧ w.frozen? ⟨b, off + i, none⟩ = false
theorem QueAt.pop {w : World} {base b off cap : Nat} {x : Int} {l : List Int} (h : QueAt w base b off cap (x :: l)) : QueAt w base b (off + 1) (cap - 1) l := by
  have hle := h.le
  simp only [List.length_cons] at hle
  refine ⟨h.base_, by omega, fun i hi => ?_, fun i hi => ?_⟩
  · have := h.at_ (i + 1) (by simpa using hi)
    rw [show off + 1 + i = off + (i + 1) from by omega, this, List.getElem_cons_succ]
  · rw [show off + 1 + i = off + (i + 1) from by omega]
    exact h.room (i + 1) (by omega)
theorem QueAt.below {w w' : World} {base b off cap : Nat} {l : List Int} (h : QueAt w base b off cap l) (hB : Below w.heap.size w w') : QueAt w' base b off cap l := by
  refine ⟨h.base_, h.le, fun i hi => cell_below (h.at_ i hi) hB, fun i hi => ?_⟩
  obtain ⟨h1, h2⟩ := h.room i hi
  obtain ⟨v, hv⟩ := Option.isSome_iff_exists.1 h1
  refine ⟨by rw [cell_below hv hB]; rfl, ?_⟩
  rw [hB.frozen (World.block_lt_of_cell? _ _ hv)]; exact h2
theorem QueAt.other {w : World} {base b off cap : Nat} {l : List Int} (h : QueAt w base b off cap l) {p : Addr} (hp : p.block < base) (v : Value) : QueAt (w.setCell p v) base b off cap l := by
  have hb := h.base_
  have hne : ∀ k, p ≠ ⟨b, k, none⟩ := fun k e => by rw [e] at hp; simp at hp; omega
  refine ⟨h.base_, h.le, fun i hi => ?_, fun i hi => ?_⟩
  · rw [World.cell?_setCell_other _ _ _ _ (fun e => hne _ e)]; exact h.at_ i hi
  · rw [World.cell?_setCell_other _ _ _ _ (fun e => hne _ e), World.frozen?_setCell]; exact h.room i hi
theorem QueAt.push {w : World} {base b off cap : Nat} {l : List Int} (h : QueAt w base b off cap l) (hr : l.length + 1 ≤ cap) (k : Int) : QueAt (w.setCells b (off + l.length) [.int .i64 k]) base b off cap (l ++ [k]) := by
  show QueAt (w.setCell ⟨b, off + l.length, none⟩ (.int .i64 k)) base b off cap (l ++ [k])
  refine ⟨h.base_, by simpa using hr, fun i hi => ?_, fun i hi => ?_⟩
  · by_cases e : i = l.length
    · subst e
      rw [World.cell?_setCell_same' _ _ _ (h.room _ (by omega)).1]
      simp
    · have hi' : i < l.length := by simp at hi; omega
      rw [World.cell?_setCell_other _ _ _ _ (by intro q; have := congrArg Addr.off q; simp at this; omega), h.at_ i hi', List.getElem_append_left hi']
  · rw [World.frozen?_setCell]
    refine ⟨?_, (h.room i hi).2⟩
    by_cases e : i = l.length
    · subst e
      rw [World.cell?_setCell_same' _ _ _ (h.room _ (by omega)).1]; rfl
    · rw [World.cell?_setCell_other _ _ _ _ (by intro q; have := congrArg Addr.off q; simp at this; omega)]; exact (h.room i hi).1
theorem que_own {w : World} {base base' : Nat} {v : Value} {n : Nat} {l : List Int} {e : TypeId} (hb : base ≤ base') (h : w.ownsRow base' e 1 v n (l.map (Value.int .i64))) (hn : 0 < n) : ∃ b cap, v = .slice (some ⟨b, 0, none⟩) n cap ∧ QueAt w base b 0 cap l := by
  have hl := h.1
  rcases h.2 with ⟨_, h0⟩ | ⟨g, cap, cur, rfl, hbg, hg, hnc, _, hs, ht⟩
  · omega
  · rw [List.length_map, Nat.mul_one] at hl
    refine ⟨g, cap, rfl, by omega, by omega, fun i hi => ?_, fun i hi => ?_⟩
    · have hc : (l.map (Value.int .i64))[i]? = some (.int .i64 l[i]) := by simp [hi]
      simp only [World.cell?, hg, Nat.zero_add]
      rw [← ht, List.getElem?_take, if_pos (by omega)] at hc
      simpa using hc
    · refine ⟨?_, Lib.frozen_of_heap hg _⟩
      rw [Lib.cell_of_heap hg, Nat.zero_add, Array.getElem?_eq_getElem (by omega)]; rfl

theorem wpList_append_que {P : Program} (w : World) {ops : Array Oper} {rest : List Oper} {o : Oper} {a : Act} {Q : Exit → Act → World → Prop}
    (hg : o.guard = none) (s x : Operand) (t : TypeId) (hop : o.op = Op.call { callee := Callee.builtin Builtin.append, args := #[s, x], argTypes := #[t, t] })
    (e : TypeId) (i : TypeInfo) (h1 : P.underlying t = some (.slice e)) (h2 : P.info? e = some i) (h3 : i.zero = some (.int .i64 0)) (h4 : i.size = 1) (h5 : i.bytes = 8)
    (base b off cap : Nat) (l : List Int) (hs : a.eval s = .slice (some ⟨b, off, none⟩) l.length cap) (hq : QueAt w base b off cap l) (hbase : base ≤ w.heap.size)
    (ad : Addr) (c : Nat) (k : Int) (hx : a.eval x = .slice (some ad) 1 c) (hc : w.cell? (ad.add 0) = some (.int .i64 k)) (hl : l.length + 1 ≤ 1000000)
    (hK : ∀ b' off' cap' w', QueAt w' base b' off' cap' (l ++ [k]) → Below base w w' → wpList P ops Q rest (a.put o.dst (.slice (some ⟨b', off', none⟩) (l.length + 1) cap')) w') : wpList P ops Q (o :: rest) a w := by
  refine wpList_append_arg w hg s x t hop e i (.int .i64 0) 1 8 h1 h2 h3 h4 h5 rfl (by decide) b off l.length cap (l.map (Value.int .i64)) hs (by simp) ?_ ad 1 c [.int .i64 k] hx rfl ?_ ?_ ?_ (by unfold maxLen; omega) (by omega) ?_ ?_
  · intro j u hj
    rw [List.getElem?_map] at hj
    obtain ⟨y, hy, rfl⟩ := Option.map_eq_some_iff.1 hj
    obtain ⟨hjl, rfl⟩ := List.getElem?_eq_some_iff.1 hy
    exact hq.at_ j hjl
  · intro j u hj
    match j, hj with
    | 0, hj => simp at hj; subst hj; exact hc
  · intro u hu; simp at hu; subst hu; rfl
  · intro hr j hj
    have hj0 : j = 0 := by simpa using hj
    subst hj0
    rw [Nat.mul_one, Nat.add_zero]
    exact hq.room _ (by omega)
  · intro hr
    rw [Nat.mul_one]
    refine hK b off cap _ (hq.push hr k) ?_
    show Below base w (w.setCell ⟨b, off + l.length, none⟩ (.int .i64 k))
    exact (Below.refl base w).setCell (p := ⟨b, off + l.length, none⟩) hq.base_ _
  · intro _ v' w' hown hgr
    rw [show l.map (Value.int .i64) ++ [Value.int .i64 k] = (l ++ [k]).map (Value.int .i64) from by simp] at hown
    obtain ⟨b', cap', rfl, hq'⟩ := que_own hbase hown (by omega)
    refine hK b' 0 cap' w' hq' ?_
    exact (Below.refl base w).grown hgr hbase (fun k hk => by cases hk)
end Go.Proofs.Ytnhnjfoboepffaa

namespace Go.Proofs.Ytnhnjfoboepffaa
open Go.RowKit

/-- Marks as they lie in a block that may be written. -/
def FlB (w : World) (B n : Nat) (f : Nat → Bool) : Prop := ∀ i, i < n → w.cell? ⟨B, i, none⟩ = some (.bool (f i)) ∧ w.frozen? ⟨B, i, none⟩ = false
theorem FlB.below {w w' : World} {B n : Nat} {f : Nat → Bool} (h : FlB w B n f) (base : Nat) (hb : B < base) (hB : Below base w w') : FlB w' B n f :=
  fun i hi => ⟨(hB.cell (p := ⟨B, i, none⟩) hb).trans (h i hi).1, (hB.frozen (p := ⟨B, i, none⟩) hb).trans (h i hi).2⟩
theorem FlB.set {w : World} {B n : Nat} {f : Nat → Bool} (h : FlB w B n f) (y : Nat) (v : Bool) : FlB (w.setCell ⟨B, y, none⟩ (.bool v)) B n (fun i => if i = y then v else f i) := by
  intro i hi
  refine ⟨?_, by rw [World.frozen?_setCell]; exact (h i hi).2⟩
  by_cases e : i = y
  · subst e
    rw [World.cell?_setCell_same' _ _ _ (by rw [(h i hi).1]; rfl)]
    simp only [if_true]
  · rw [World.cell?_setCell_other _ _ _ _ (by intro q; have := congrArg Addr.off q; simp at this; omega)]
    simp only [if_neg e]
    exact (h i hi).1
abbrev blsA (n : Nat) : Array Value := madeCells #[.bool false] n
theorem blsA_at (n i : Nat) (h : i < n) : (blsA n)[i]? = some (.bool false) := by
  unfold blsA madeCells
  have h2 : i < ((Array.range n).map fun x => (#[Value.bool false] : Array Value)[x % 1]!).size := by simp; omega
  show ((Array.range n).map fun x => (#[Value.bool false] : Array Value)[x % 1]!)[i]? = _
  rw [Array.getElem?_eq_getElem h2]
  simp [Nat.mod_one]
theorem boolInfo : (Try.prog.info? 4).map (fun i => (i.zero, i.size, i.bytes)) = some (some (.bool false), 1, 1) := by kernel_rfl
theorem make_bools (n : Nat) (hn : n ≤ 1000000) (W : World) : (Instr.makeSlice 24 (.int .i64 n) (.int .i64 n)).run Try.prog W = .ok (.slice (some ⟨W.heap.size, 0, none⟩) n n) (W.alloc (.cells (blsA n) 4)) := by
  obtain ⟨i0, hi, hz0, hz1, hz2⟩ := info_parts boolInfo
  have h := run_make (P := Try.prog) W 24 4 i0 (.bool false) Try.underlying24 hi hz0 .i64 .i64 (n : Int) (n : Int) (by omega) (Int.le_refl _) (by rw [hz2]; omega) (by omega)
  rw [hz1, Int.toNat_natCast, Nat.mul_one] at h
  exact h
theorem flB_new (W : World) (n : Nat) : FlB (W.alloc (.cells (blsA n) 4)) W.heap.size n (fun _ => false) := by
  intro i hi
  have h := box_new W (blsA n) 4
  refine ⟨?_, Lib.frozen_of_heap h i⟩
  rw [Lib.cell_of_heap h]; exact blsA_at n i hi
def isT : Option Value → Bool
  | some (.bool b) => b
  | _ => false
def lenV : Value → Nat
  | .slice _ n _ => n
  | _ => 0
abbrev nats (l : List Nat) : List Int := l.map fun (x : Nat) => (x : Int)
theorem nats_len (l : List Nat) : (nats l).length = l.length := List.length_map _
end Go.Proofs.Ytnhnjfoboepffaa

namespace Go.Proofs.Ytnhnjfoboepffaa
open Go.RowKit

/-- Lists as they lie in memory, each one a slice of its own. -/
structure NstAt {α : Type} (f : α → Value) (w : World) (b off : Nat) (l : List (List α)) : Prop where
  lt : b < w.heap.size
  at_ : ∀ i, (h : i < l.length) → ∃ a c, w.cell? ⟨b, off + i, none⟩ = some (.slice a l[i].length c) ∧ (a = none → c = 0) ∧ l[i].length ≤ c ∧ CelSl f w a l[i]
theorem NstAt.below {α : Type} {f : α → Value} {w w' : World} {b off : Nat} {l : List (List α)} (h : NstAt f w b off l) (hB : Below w.heap.size w w') : NstAt f w' b off l :=
  ⟨Nat.lt_of_lt_of_le h.lt hB.size, fun i hi => by
    obtain ⟨a, c, h1, h2, h3, h4⟩ := h.at_ i hi
    exact ⟨a, c, cell_below h1 hB, h2, h3, h4.below hB⟩⟩
theorem NstAt.row {w : World} {b off : Nat} {l : List (List Int)} (h : NstAt (Value.int .i64) w b off l) : RowAt w b off l := ⟨h.lt, h.at_⟩
/-- A list of lists of the call's own. -/
def NestOwn {α : Type} (f : α → Value) (w : World) (base : Nat) (e : TypeId) (v : Value) (rows : List (List α)) : Prop :=
  ∃ vals, w.ownsRow base e 1 v rows.length vals ∧ ∀ i, (h : i < rows.length) → ∃ a c, vals[i]? = some (.slice a rows[i].length c) ∧ (a = none → c = 0) ∧ rows[i].length ≤ c ∧ (rows[i] = [] ∨ ∃ b off, a = some ⟨b, off, none⟩ ∧ some b ≠ v.ownBlock ∧ CelAt f w b off rows[i])
theorem NestOwn.nil {α : Type} (f : α → Value) (w : World) (base : Nat) (e : TypeId) : NestOwn f w base e (.slice none 0 0) [] := ⟨[], ⟨rfl, Or.inl ⟨rfl, rfl⟩⟩, fun i hi => by simp at hi⟩
theorem NestOwn.below {α : Type} {f : α → Value} {w w' : World} {base : Nat} {e : TypeId} {v : Value} {rows : List (List α)} (h : NestOwn f w base e v rows) (hB : Below w.heap.size w w') : NestOwn f w' base e v rows := by
  obtain ⟨vals, h1, h2⟩ := h
  refine ⟨vals, own_below h1 hB, fun i hi => ?_⟩
  obtain ⟨a, c, q1, q2, q3, q4⟩ := h2 i hi
  refine ⟨a, c, q1, q2, q3, ?_⟩
  rcases q4 with q | ⟨b, off, r1, r2, r3⟩
  · exact Or.inl q
  · exact Or.inr ⟨b, off, r1, r2, r3.below hB⟩
theorem NestOwn.slice {α : Type} {f : α → Value} {w : World} {base : Nat} {e : TypeId} {v : Value} {rows : List (List α)} (h : NestOwn f w base e v rows) : ∃ a c, v = .slice a rows.length c := by
  obtain ⟨vals, h1, _⟩ := h
  exact own_slice h1
/-- As it lies in memory. -/
theorem NestOwn.lies {α : Type} {f : α → Value} {w : World} {base : Nat} {e : TypeId} {v : Value} {rows : List (List α)} (h : NestOwn f w base e v rows) :
    (v = .slice none 0 0 ∧ rows = []) ∨ ∃ g c, v = .slice (some ⟨g, 0, none⟩) rows.length c ∧ rows.length ≤ c ∧ base ≤ g ∧ NstAt f w g 0 rows := by
  obtain ⟨vals, h1, h2⟩ := h
  rcases h1.2 with ⟨rfl, h0⟩ | ⟨g, cap, cur, rfl, hb, hg, hn, hm, hs, ht⟩
  · exact Or.inl ⟨rfl, List.length_eq_zero_iff.1 h0⟩
  · refine Or.inr ⟨g, cap, rfl, hn, hb, ?_, fun i hi => ?_⟩
    · rcases Nat.lt_or_ge g w.heap.size with h' | h'
      · exact h'
      · simp [Array.getElem?_eq_none h'] at hg
    · obtain ⟨a, c, q1, q2, q3, q4⟩ := h2 i hi
      refine ⟨a, c, ?_, q2, q3, ?_⟩
      · simp only [World.cell?, hg, Nat.zero_add]
        rw [← ht, List.getElem?_take, if_pos (by omega)] at q1
        simpa using q1
      · rcases q4 with q | ⟨b, off, r1, _, r3⟩
        · exact Or.inl q
        · exact Or.inr ⟨b, off, r1, r3⟩

theorem wpList_append_nest {α : Type} {f : α → Value} {P : Program} (w : World) {ops : Array Oper} {rest : List Oper} {o : Oper} {a : Act} {Q : Exit → Act → World → Prop}
    (hg : o.guard = none) (s x : Operand) (t : TypeId) (hop : o.op = Op.call { callee := Callee.builtin Builtin.append, args := #[s, x], argTypes := #[t, t] })
    (e : TypeId) (i : TypeInfo) (h1 : P.underlying t = some (.slice e)) (h2 : P.info? e = some i) (h3 : i.zero = some (.slice none 0 0)) (h4 : i.size = 1) (h5 : i.bytes = 24)
    (base : Nat) (v : Value) (rows : List (List α)) (hs : a.eval s = v) (hq : NestOwn f w base e v rows) (hbase : base ≤ w.heap.size)
    (ad : Addr) (c : Nat) (ra : Option Addr) (l : List α) (rc : Nat) (hx : a.eval x = .slice (some ad) 1 c) (hc : w.cell? (ad.add 0) = some (.slice ra l.length rc)) (hl : rows.length + 1 ≤ 1000000)
    (hr1 : ra = none → rc = 0) (hr2 : l.length ≤ rc) (hr3 : l = [] ∨ ∃ b off, ra = some ⟨b, off, none⟩ ∧ some b ≠ v.ownBlock ∧ CelAt f w b off l)
    (hK : ∀ g c' w', NestOwn f w' base e (.slice (some ⟨g, 0, none⟩) (rows.length + 1) c') (rows ++ [l]) → Below base w w' → wpList P ops Q rest (a.put o.dst (.slice (some ⟨g, 0, none⟩) (rows.length + 1) c')) w') : wpList P ops Q (o :: rest) a w := by
  obtain ⟨vals, hown, hrows⟩ := hq
  refine wpList_append_own_at w hg s x t hop base e i (.slice none 0 0) 1 24 h1 h2 h3 h4 h5 rfl (by decide) v rows.length vals hs hown ad 1 c [.slice ra l.length rc] hx rfl ?_ ?_ (by unfold maxLen; omega) (by omega) hbase ?_
  · intro j u hj
    match j, hj with
    | 0, hj => simp at hj; subst hj; exact hc
  · intro u hu; simp at hu; subst hu; rfl
  · intro v' w' hown' hgr _ hblk
    have hvl := hown.1
    rw [Nat.mul_one] at hvl
    rcases hown'.2 with ⟨_, h0⟩ | ⟨g, cap, cur, rfl, hbg, hg', hn, hm, hsz, ht⟩
    · omega
    refine hK g cap w' ⟨vals ++ [.slice ra l.length rc], ?_, fun i hi => ?_⟩ ?_
    · rw [List.length_append, List.length_singleton]; exact hown'
    · have hkeep : ∀ b off l', some b ≠ v.ownBlock → CelAt f w b off l' → (some b ≠ (Value.slice (some ⟨g, 0, none⟩) (rows.length + 1) cap).ownBlock ∧ CelAt f w' b off l') := by
        intro b off l' hne hat
        have hlt := hat.lt
        have hb : w'.heap[b]? = w.heap[b]? := hgr.block b hlt hne
        refine ⟨?_, Nat.lt_of_lt_of_le hlt hgr.size, fun j hj => ?_⟩
        · rcases hblk with q | q
          · rw [q]; exact hne
          · rw [q]; intro e; cases e; omega
        · rw [World.cell?_of_block (w := w) hb]; exact hat.at_ j hj
      by_cases hil : i < rows.length
      · obtain ⟨a', c2, q1, q2, q3, q4⟩ := hrows i hil
        refine ⟨a', c2, ?_, q2, ?_, ?_⟩
        · rw [List.getElem?_append_left (by omega), List.getElem_append_left hil]; exact q1
        · rw [List.getElem_append_left hil]; exact q3
        · rw [List.getElem_append_left hil]
          rcases q4 with q | ⟨b, off, r1, r2, r3⟩
          · exact Or.inl q
          · obtain ⟨k1, k2⟩ := hkeep b off _ r2 r3
            exact Or.inr ⟨b, off, r1, k1, k2⟩
      · have hie : i = rows.length := by simp at hi; omega
        subst hie
        refine ⟨ra, rc, ?_, hr1, ?_, ?_⟩
        · rw [List.getElem?_append_right (by omega), hvl]; simp
        · simpa using hr2
        · rw [List.getElem_concat_length (by rfl)]
          rcases hr3 with q | ⟨b, off, r1, r2, r3⟩
          · exact Or.inl q
          · obtain ⟨k1, k2⟩ := hkeep b off _ r2 r3
            exact Or.inr ⟨b, off, r1, k1, k2⟩
    · refine (Below.refl base w).grown hgr hbase (fun k hk => ?_)
      rcases hown.2 with ⟨rfl, _⟩ | ⟨g0, _, _, rfl, hb0, _⟩
      · cases hk
      · cases hk; exact hb0
end Go.Proofs.Ytnhnjfoboepffaa

namespace Go.Proofs.Ytnhnjfoboepffaa
open Go.RowKit

/-- The post of one operation's walk: behind it K. -/
def then1 (K : Act → World → Prop) (Q : Exit → Act → World → Prop) : Exit → Act → World → Prop
  | .normal, a, w => K a w
  | e, a, w => Q e a w
theorem upon_then {P : Program} {o : Oper} {a : Act} {K : Act → World → Prop} {Q : Exit → Act → World → Prop} {r : Result Next} (h : o.upon P a K (then1 K Q) r) : o.upon P a K Q r := by
  cases r with
  | ok n w' => cases n <;> exact h
  | halt x w' => cases x <;> exact h
theorem wpOp_list {P : Program} {ops : Array Oper} {Q : Exit → Act → World → Prop} {i : Nat} {o : Oper} {K : Act → World → Prop} {a : Act} {w : World} (ho : ops[i]? = some o) (h : wpList P ops (then1 K Q) [o] a w) : wpOp P ops Q i K a w := by
  unfold wpOp
  rw [ho]
  unfold wpList at h
  simp only
  split
  · rename_i hw
    rw [if_pos hw] at h
    rcases h with h | ⟨h1, h2⟩
    · exact Or.inl (upon_then h)
    · exact Or.inr ⟨h1, h2⟩
  · rename_i hw
    rw [if_neg hw] at h
    exact h
theorem wpOp_walk {P : Program} {ops : Array Oper} {Q : Exit → Act → World → Prop} {i : Nat} {o : Oper} {K : Act → World → Prop} {a : Act} {w : World} (ho : ops[i]? = some o) (h : ∀ K' : Act → World → Prop, Hid (∀ a w, K a w → K' a w) → wpList P ops (then1 K' Q) [o] a w) : wpOp P ops Q i K a w :=
  wpOp_list ho (h K (Lib.hid fun _ _ h => h))
theorem ready_at {md : Region.Mode} {ops : Array Oper} {L : Array Bool} {i : Nat} (h : i ∈ Region.ready md ops L) : i < ops.size ∧ L.getD i true = false := by
  unfold Region.ready at h
  rw [List.mem_filter, List.mem_range, Bool.and_eq_true, Bool.not_eq_true'] at h
  exact ⟨h.1, h.2.1⟩
theorem ready_none {md : Region.Mode} {ops : Array Oper} {L : Array Bool} (h : L.toList.count false = 0) : Region.ready md ops L = [] := by
  rw [List.eq_nil_iff_forall_not_mem]
  intro i hi
  obtain ⟨_, h2⟩ := ready_at hi
  rw [List.count_eq_zero] at h
  apply h
  rw [Array.getD_eq_getD_getElem?] at h2
  cases hq : L[i]? with
  | none => rw [hq] at h2; cases h2
  | some b =>
    rw [hq] at h2
    have : b = false := h2
    subst this
    exact Array.mem_toList_iff.2 (Array.mem_of_getElem? hq)
/-- A region that draws its order, by what holds behind any part of it. -/
theorem wpAnyH_inv {P : Program} {md : Region.Mode} {ops : Array Oper} {Q : Exit → Act → World → Prop} {S : World → Prop} (I : Array Bool → Act → World → Prop)
    (hstep : ∀ L a w, I L a w → ∀ i, i ∈ Region.ready md ops L → wpOp P ops Q i (fun a' w' => S w' ∧ I (L.setIfInBounds i true) a' w') a w)
    (hend : ∀ L a w, I L a w → Region.ready md ops L = [] → Q .normal a w) : ∀ fuel L a w, L.toList.count false ≤ fuel → I L a w → wpAnyH P md ops Q S fuel L a w := by
  intro fuel
  induction fuel with
  | zero =>
    intro L a w hc hI
    have hr := ready_none (md := md) (ops := ops) (Nat.le_zero.1 hc)
    exact ⟨hr, hend L a w hI hr⟩
  | succ fuel ih =>
    intro L a w hc hI
    refine ⟨fun hr => hend L a w hI hr, fun i hi => ?_⟩
    obtain ⟨_, h2⟩ := ready_at hi
    have hlt : i < L.size := by
      rcases Nat.lt_or_ge i L.size with q | q
      · exact q
      · rw [Array.getD_eq_getD_getElem?, Array.getElem?_eq_none q] at h2; cases h2
    have hv : L.toList[i]'(by simpa using hlt) = false := by
      rw [Array.getD_eq_getD_getElem?, Array.getElem?_eq_getElem hlt] at h2
      simpa using h2
    refine wpOp_mono (fun a' w' hq => ⟨hq.1, ih _ a' w' ?_ hq.2⟩) (hstep L a w hI i hi)
    rw [Array.toList_setIfInBounds, List.count_set (by simpa using hlt), hv]
    have : 0 < L.toList.count false := by rw [List.count_pos_iff]; rw [← hv]; exact List.getElem_mem _
    show L.toList.count false - 1 + 0 ≤ fuel
    omega

/-- What a row of one's own is, is told by its block alone. -/
theorem own_same {w w' : World} {base : Nat} {e : TypeId} {size : Nat} {v : Value} {n : Nat} {xs : List Value} (h : w.ownsRow base e size v n xs) (hk : ∀ g, v.ownBlock = some g → w'.heap[g]? = w.heap[g]?) : w'.ownsRow base e size v n xs := by
  refine ⟨h.1, ?_⟩
  rcases h.2 with h | ⟨g, cap, cur, e1, hb, hg, hr⟩
  · exact Or.inl h
  · exact Or.inr ⟨g, cap, cur, e1, hb, by rw [hk g (by rw [e1]; rfl)]; exact hg, hr⟩
theorem own_lt {w : World} {base : Nat} {e : TypeId} {size : Nat} {v : Value} {n g : Nat} {xs : List Value} (h : w.ownsRow base e size v n xs) (hg : v.ownBlock = some g) : base ≤ g ∧ g < w.heap.size := by
  rcases h.2 with ⟨rfl, _⟩ | ⟨g', cap, cur, rfl, hb, hg', _⟩
  · cases hg
  · have e1 : g' = g := by injection hg
    subst e1
    refine ⟨hb, ?_⟩
    rcases Nat.lt_or_ge g' w.heap.size with q | q
    · exact q
    · rw [Array.getElem?_eq_none q] at hg'; cases hg'
/-- A row that is laid empty. -/
theorem own_made (w : World) (base : Nat) (e : TypeId) (size : Nat) (hb : base ≤ w.heap.size) : (w.alloc (.cells #[] e)).ownsRow base e size (.slice (some ⟨w.heap.size, 0, none⟩) 0 0) 0 [] :=
  ⟨by simp, Or.inr ⟨w.heap.size, 0, #[], rfl, hb, box_new w #[] e, Nat.le_refl _, Nat.zero_le _, by simp, by simp⟩⟩
/-- 'append' of a list onto a row of one's own. -/
theorem wpList_app_cel {α : Type} {f : α → Value} {P : Program} (w : World) {ops : Array Oper} {rest : List Oper} {o : Oper} {a : Act} {Q : Exit → Act → World → Prop}
    (hg : o.guard = none) (s x : Operand) (t : TypeId) (hop : o.op = Op.call { callee := Callee.builtin Builtin.append, args := #[s, x], argTypes := #[t, t] })
    (e : TypeId) (i : TypeInfo) (z : Value) (bytes : Nat) (h1 : P.underlying t = some (.slice e)) (h2 : P.info? e = some i) (h3 : i.zero = some z) (h4 : i.size = 1) (h5 : i.bytes = bytes) (h6 : z.cells.size = 1) (hby : bytes ≤ 100)
    (hone : ∀ x, (f x).oneCell' = true)
    (base : Nat) (v : Value) (xs : List α) (hs : a.eval s = v) (hq : w.ownsRow base e 1 v xs.length (xs.map f)) (hbase : base ≤ w.heap.size)
    (ad : Option Addr) (c : Nat) (l : List α) (hx : a.eval x = .slice ad l.length c) (hc : ad = none → c = 0) (hl : CelSl f w ad l) (hle : xs.length + l.length ≤ 1000000)
    (hK : ∀ v' w', w'.ownsRow base e 1 v' (xs ++ l).length ((xs ++ l).map f) → w.grownBy w' v.ownBlock → (v'.ownBlock = v.ownBlock ∨ v'.ownBlock = some w.heap.size) → (v ≠ .slice none 0 0 → v' ≠ .slice none 0 0) → wpList P ops Q rest (a.put o.dst v') w') : wpList P ops Q (o :: rest) a w := by
  cases ad with
  | none =>
    obtain rfl := hc rfl
    have h0 : l = [] := by
      rcases hl with h | ⟨_, _, h, _⟩
      · exact h
      · cases h
    subst h0
    refine wpList_append_own_none hg s x t hop base e i 1 h1 h2 v xs.length (xs.map f) hs hq hx ?_
    exact hK v w (by rw [List.append_nil]; exact hq) (World.grownBy.refl _ _) (Or.inl rfl) id
  | some ad =>
    refine wpList_append_own_at w hg s x t hop base e i z 1 bytes h1 h2 h3 h4 h5 h6 (by decide) v xs.length (xs.map f) hs hq ad l.length c (l.map f) hx (by simp) ?_ ?_ (by unfold maxLen; omega) (by have := Nat.mul_le_mul hle hby; omega) hbase ?_
    · intro j u hj
      rw [List.getElem?_map] at hj
      cases hq : l[j]? with
      | none => rw [hq] at hj; cases hj
      | some y =>
        rw [hq] at hj
        cases hj
        obtain ⟨hj', e1⟩ := List.getElem?_eq_some_iff.1 hq
        obtain ⟨b, off, e2, hA⟩ := CelSl.at hl hj'
        cases e2
        have : (⟨b, off, none⟩ : Addr).add j = ⟨b, off + j, none⟩ := by simp [Addr.add]
        rw [this, hA.at_ j hj', e1]
    · intro u hu
      obtain ⟨y, _, rfl⟩ := List.mem_map.1 hu
      exact hone y
    · intro v' w' k1 k2 k3 k4
      refine hK v' w' (by rw [List.map_append, List.length_append]; exact k1) k2 k4 (fun hn hn' => ?_)
      exact hn (k3.1 hn').1
/-- What lies in a row of one's own. -/
theorem own_cel {α : Type} {f : α → Value} {w : World} {base : Nat} {e : TypeId} {v : Value} {l : List α} (h : w.ownsRow base e 1 v l.length (l.map f)) : ∃ a c, v = .slice a l.length c ∧ (a = none → c = 0) ∧ l.length ≤ c ∧ CelSl f w a l := by
  rcases h.2 with ⟨rfl, h0⟩ | ⟨g, cap, cur, rfl, hb, hg, hn, hm, hs, ht⟩
  · exact ⟨none, 0, by rw [h0], fun _ => rfl, by omega, Or.inl (List.length_eq_zero_iff.1 h0)⟩
  · refine ⟨_, cap, rfl, fun h => (by cases h), hn, Or.inr ⟨g, 0, rfl, ?_, fun i hi => ?_⟩⟩
    · rcases Nat.lt_or_ge g w.heap.size with q | q
      · exact q
      · simp [Array.getElem?_eq_none q] at hg
    · simp only [World.cell?, hg, Nat.zero_add]
      have h2 : (cur.toList.take (l.length * 1))[i]? = (l.map f)[i]? := by rw [ht]
      rw [List.getElem?_take, if_pos (by omega)] at h2
      simpa [hi] using h2
end Go.Proofs.Ytnhnjfoboepffaa

namespace Go.Proofs.Ytnhnjfoboepffaa
open Go.RowKit

theorem heap_set_same {w : World} {B : Nat} {cs : Array Value} {T : TypeId} (h : w.heap[B]? = some (.cells cs T (0, 0))) (k : Nat) (v : Value) : (w.setCell ⟨B, k, none⟩ v).heap[B]? = some (.cells (cs.setIfInBounds k v) T (0, 0)) := by
  simp [World.setCell, Array.getElem?_modify, h]
theorem heap_set_other (w : World) (B k : Nat) (v : Value) {j : Nat} (hj : j ≠ B) : (w.setCell ⟨B, k, none⟩ v).heap[j]? = w.heap[j]? := by
  simp [World.setCell, Array.getElem?_modify, Ne.symm hj]
theorem grown_set (w : World) (B k : Nat) (v : Value) : w.grownBy (w.setCell ⟨B, k, none⟩ v) (some B) :=
  ⟨rfl, rfl, rfl, by simp, fun j _ hne => heap_set_other w B k v (fun e => hne (by rw [e]))⟩

/-- A list of lists of the call's own whose lists lie in blocks that are as asked. -/
def NestQ {α : Type} (ok : Nat → Prop) (f : α → Value) (w : World) (base : Nat) (e : TypeId) (v : Value) (rows : List (List α)) : Prop :=
  ∃ vals, w.ownsRow base e 1 v rows.length vals ∧ ∀ i, (h : i < rows.length) → ∃ a c, vals[i]? = some (.slice a rows[i].length c) ∧ (a = none → c = 0) ∧ rows[i].length ≤ c ∧ (rows[i] = [] ∨ ∃ b off, a = some ⟨b, off, none⟩ ∧ some b ≠ v.ownBlock ∧ ok b ∧ CelAt f w b off rows[i])
theorem NestQ.nil {α : Type} (ok : Nat → Prop) (f : α → Value) (w : World) (base : Nat) (e : TypeId) : NestQ ok f w base e (.slice none 0 0) [] := ⟨[], ⟨rfl, Or.inl ⟨rfl, rfl⟩⟩, fun i hi => by simp at hi⟩
theorem NestQ.own {α : Type} {ok : Nat → Prop} {f : α → Value} {w : World} {base : Nat} {e : TypeId} {v : Value} {rows : List (List α)} (h : NestQ ok f w base e v rows) : NestOwn f w base e v rows := by
  obtain ⟨vals, h1, h2⟩ := h
  refine ⟨vals, h1, fun i hi => ?_⟩
  obtain ⟨a, c, q1, q2, q3, q4⟩ := h2 i hi
  refine ⟨a, c, q1, q2, q3, ?_⟩
  rcases q4 with q | ⟨b, off, r1, r2, _, r3⟩
  · exact Or.inl q
  · exact Or.inr ⟨b, off, r1, r2, r3⟩
theorem NestQ.kept {α : Type} {ok : Nat → Prop} {f : α → Value} {w w' : World} {base : Nat} {e : TypeId} {v : Value} {rows : List (List α)} (h : NestQ ok f w base e v rows) (hsz : w.heap.size ≤ w'.heap.size)
    (h1 : ∀ g, v.ownBlock = some g → w'.heap[g]? = w.heap[g]?) (h2 : ∀ b, b < w.heap.size → ok b → w'.heap[b]? = w.heap[b]?) : NestQ ok f w' base e v rows := by
  obtain ⟨vals, k1, k2⟩ := h
  refine ⟨vals, own_same k1 h1, fun i hi => ?_⟩
  obtain ⟨a, c, q1, q2, q3, q4⟩ := k2 i hi
  refine ⟨a, c, q1, q2, q3, ?_⟩
  rcases q4 with q | ⟨b, off, r1, r2, r3, r4⟩
  · exact Or.inl q
  · exact Or.inr ⟨b, off, r1, r2, r3, Nat.lt_of_lt_of_le r4.lt hsz, fun j hj => by rw [World.cell?_of_block (w := w) (h2 b r4.lt r3)]; exact r4.at_ j hj⟩
theorem NestQ.slice {α : Type} {ok : Nat → Prop} {f : α → Value} {w : World} {base : Nat} {e : TypeId} {v : Value} {rows : List (List α)} (h : NestQ ok f w base e v rows) : ∃ a c, v = .slice a rows.length c := h.own.slice

theorem wpList_append_nestQ {α : Type} {ok : Nat → Prop} {f : α → Value} {P : Program} (w : World) {ops : Array Oper} {rest : List Oper} {o : Oper} {a : Act} {Q : Exit → Act → World → Prop}
    (hg : o.guard = none) (s x : Operand) (t : TypeId) (hop : o.op = Op.call { callee := Callee.builtin Builtin.append, args := #[s, x], argTypes := #[t, t] })
    (e : TypeId) (i : TypeInfo) (h1 : P.underlying t = some (.slice e)) (h2 : P.info? e = some i) (h3 : i.zero = some (.slice none 0 0)) (h4 : i.size = 1) (h5 : i.bytes = 24)
    (base : Nat) (v : Value) (rows : List (List α)) (hs : a.eval s = v) (hq : NestQ ok f w base e v rows) (hbase : base ≤ w.heap.size)
    (ad : Addr) (c : Nat) (ra : Option Addr) (l : List α) (rc : Nat) (hx : a.eval x = .slice (some ad) 1 c) (hc : w.cell? (ad.add 0) = some (.slice ra l.length rc)) (hl : rows.length + 1 ≤ 1000000)
    (hr1 : ra = none → rc = 0) (hr2 : l.length ≤ rc) (hr3 : l = [] ∨ ∃ b off, ra = some ⟨b, off, none⟩ ∧ some b ≠ v.ownBlock ∧ ok b ∧ CelAt f w b off l)
    (hK : ∀ g c' w', NestQ ok f w' base e (.slice (some ⟨g, 0, none⟩) (rows.length + 1) c') (rows ++ [l]) → w.grownBy w' v.ownBlock → (some g = v.ownBlock ∨ g = w.heap.size) → wpList P ops Q rest (a.put o.dst (.slice (some ⟨g, 0, none⟩) (rows.length + 1) c')) w') : wpList P ops Q (o :: rest) a w := by
  obtain ⟨vals, hown, hrows⟩ := hq
  refine wpList_append_own_at w hg s x t hop base e i (.slice none 0 0) 1 24 h1 h2 h3 h4 h5 rfl (by decide) v rows.length vals hs hown ad 1 c [.slice ra l.length rc] hx rfl ?_ ?_ (by unfold maxLen; omega) (by omega) hbase ?_
  · intro j u hj
    match j, hj with
    | 0, hj => simp at hj; subst hj; exact hc
  · intro u hu; simp at hu; subst hu; rfl
  · intro v' w' hown' hgr _ hblk
    have hvl := hown.1
    rw [Nat.mul_one] at hvl
    rcases hown'.2 with ⟨_, h0⟩ | ⟨g, cap, cur, rfl, hbg, hg', hn, hm, hsz, ht⟩
    · omega
    refine hK g cap w' ⟨vals ++ [.slice ra l.length rc], ?_, fun i hi => ?_⟩ hgr ?_
    · rw [List.length_append, List.length_singleton]; exact hown'
    · have hkeep : ∀ b off l', some b ≠ v.ownBlock → CelAt f w b off l' → (some b ≠ (Value.slice (some ⟨g, 0, none⟩) (rows.length + 1) cap).ownBlock ∧ CelAt f w' b off l') := by
        intro b off l' hne hat
        have hlt := hat.lt
        have hb : w'.heap[b]? = w.heap[b]? := hgr.block b hlt hne
        refine ⟨?_, Nat.lt_of_lt_of_le hlt hgr.size, fun j hj => ?_⟩
        · rcases hblk with q | q
          · rw [q]; exact hne
          · rw [q]; intro e; cases e; omega
        · rw [World.cell?_of_block (w := w) hb]; exact hat.at_ j hj
      by_cases hil : i < rows.length
      · obtain ⟨a', c2, q1, q2, q3, q4⟩ := hrows i hil
        refine ⟨a', c2, ?_, q2, ?_, ?_⟩
        · rw [List.getElem?_append_left (by omega), List.getElem_append_left hil]; exact q1
        · rw [List.getElem_append_left hil]; exact q3
        · rw [List.getElem_append_left hil]
          rcases q4 with q | ⟨b, off, r1, r2, r3, r4⟩
          · exact Or.inl q
          · obtain ⟨k1, k2⟩ := hkeep b off _ r2 r4
            exact Or.inr ⟨b, off, r1, k1, r3, k2⟩
      · have hie : i = rows.length := by simp at hi; omega
        subst hie
        refine ⟨ra, rc, ?_, hr1, ?_, ?_⟩
        · rw [List.getElem?_append_right (by omega), hvl]; simp
        · simpa using hr2
        · rw [List.getElem_concat_length (by rfl)]
          rcases hr3 with q | ⟨b, off, r1, r2, r3, r4⟩
          · exact Or.inl q
          · obtain ⟨k1, k2⟩ := hkeep b off _ r2 r4
            exact Or.inr ⟨b, off, r1, k1, r3, k2⟩
    · rcases hblk with q | q
      · exact Or.inl q
      · right; injection q
end Go.Proofs.Ytnhnjfoboepffaa

namespace Go.Proofs.Ytnhnjfoboepffaa
open Go.RowKit

theorem wpAnyH_call {P : Program} {md : Region.Mode} {ops : Array Oper} {Q : Exit → Act → World → Prop} {S : World → Prop} {fuel : Nat} {listed : Array Bool} {a : Act} {w : World} (i : Nat) {o : Oper} (f : FuncId) (args : Array Value) (V : Value) (hr : Region.ready md ops listed = [i]) (ho : ops[i]? = some o)
    (hw : Region.wanted o (yielded ops a.tmps) = true) (hx : (execOp a.eval o).run P w = .ok (.enter f args) w)
    (hc : Calls P f args w fun e w' => e = .returned V ∧ Below w.heap.size w w')
    (h : ∀ w', Below w.heap.size w w' → S w' ∧ wpAnyH P md ops Q S fuel (listed.setIfInBounds i true) (a.put o.dst V) w') : wpAnyH P md ops Q S (fuel + 1) listed a w :=
  wpAnyH_all hr (by simp) (fun j hj => by
    rw [List.mem_singleton] at hj
    subst hj
    unfold wpOp
    rw [ho]
    simp only
    rw [if_pos hw]
    refine Or.inl ?_
    unfold Oper.wp
    rw [hx]
    refine hc.mono fun e w' ⟨he, hB⟩ => ?_
    subst he
    exact h w' hB)
end Go.Proofs.Ytnhnjfoboepffaa

namespace Go.Proofs.Ytnhnjfoboepffaa
open Go.RowKit

theorem wpAnyH_one {P : Program} {md : Region.Mode} {ops : Array Oper} {Q : Exit → Act → World → Prop} {S : World → Prop} {fuel : Nat} {listed : Array Bool} {a : Act} {w : World} (i : Nat) {o : Oper} (hr : Region.ready md ops listed = [i]) (ho : ops[i]? = some o)
    (h : ∀ K' : Act → World → Prop, Hid (∀ a w, (S w ∧ wpAnyH P md ops Q S fuel (listed.setIfInBounds i true) a w) → K' a w) → wpList P ops (then1 K' Q) [o] a w) : wpAnyH P md ops Q S (fuel + 1) listed a w :=
  wpAnyH_all hr (by simp) (fun j hj => by
    rw [List.mem_singleton] at hj
    subst hj
    exact wpOp_walk ho h)
theorem run_exec_load_row {P : Program} {o : Oper} {ev : Operand → Value} (w : World) (t : TypeId) (x : Operand) (hop : o.op = Op.load t x) (i : TypeInfo) (hi : P.info? t = some i) (hag : (isAgg t).run P w = .ok true w) (b : Nat) (vs : Array Value) (T : TypeId) (hx : ev x = .pointer (some ⟨b, 0, none⟩))
    (hw : w.heap[b]? = some (.cells vs T (0, 0))) (hti : i.size = vs.size) : (execOp ev o).run P w = .ok (.value (.agg vs)) w := by
  have hrun := run_loadAt_row (P := P) w t i hi hag b vs T hw hti
  simp [execOp, hop, hx, hrun, Result.andThen]
end Go.Proofs.Ytnhnjfoboepffaa
