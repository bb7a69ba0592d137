/- Texts of one's own, joined: BasA, BasB, BasC, OrdA, OrdM, OrdE, OrdB, OrdC, OrdF. -/
import Derived.Test.YthacjdlohmkpoaaProg
import Derived.WalkKit
import Derived.WalkSpells
import Derived.Lib.Hide
import Derived.Deep.QuietTactic
import Derived.BigQuiet
import Derived.StillTailTactics
import Derived.IntWalk
import Derived.OwnWalk
import Derived.Laws.AppendOwn
import Derived.Laws.AppendOwnNone
import Derived.Deep.RegionHeldLaw
import Derived.Lib.Builder
import Derived.Lib.Buffer
import Derived.ArgAppend
import Derived.Laws.OwnMore
import Derived.Test.YthacjdlohmkpoaaShelf
import Derived.Laws.RangeAny
namespace Go.Proofs.Ythacjdlohmkpoaa
open Go.RowKit

theorem ret_int {k : IntKind} {a b : Int} (h : a = b) : Ending.returned (.int k a) = .returned (.int k b) := by rw [h]
theorem ret_bool {a b : Bool} (h : a = b) : Ending.returned (.bool a) = .returned (.bool b) := by rw [h]
theorem ret_str {a b : ByteArray} (h : a = b) : Ending.returned (.string a) = .returned (.string b) := by rw [h]
theorem bcell {W w1 : World} (hb : Below W.heap.size W w1) : (∀ b o, b < W.heap.size → w1.cell? ⟨b, o, none⟩ = W.cell? ⟨b, o, none⟩) ∧ (∀ b o, b < W.heap.size → w1.frozen? ⟨b, o, none⟩ = W.frozen? ⟨b, o, none⟩) :=
  ⟨fun b o h => hb.cell (p := ⟨b, o, none⟩) h, fun b o h => hb.frozen (p := ⟨b, o, none⟩) h⟩
theorem below1 (w : World) (o : Obj) : Below w.heap.size w (w.alloc o) := (Below.refl _ _).alloc (Nat.le_refl _) _
theorem below2 {w W w1 : World} (h1 : Below w.heap.size w W) (h2 : Below W.heap.size W w1) : Below w.heap.size w w1 := h1.trans (h2.mono h1.size)
theorem belowA {w w1 : World} (h : Below w.heap.size w w1) (o : Obj) : Below w.heap.size w (w1.alloc o) := h.alloc h.size o
theorem belowN {B : Nat} {a w : World} (h : Below B a w) (n : Nat) : Below B a (w.drewN n) := ⟨h.os, h.tape, h.output, h.size, h.block⟩
theorem cell_below {w w' : World} {p : Addr} {v : Value} (h : w.cell? p = some v) (hB : Below w.heap.size w w') : w'.cell? p = some v := by rw [hB.cell (World.block_lt_of_cell? w p h)]; exact h
theorem own_below {w w' : World} {base : Nat} {e : TypeId} {size : Nat} {v : Value} {n : Nat} {xs : List Value} (h : w.ownsRow base e size v n xs) (hb : Below w.heap.size w w') : w'.ownsRow base e size v n xs :=
  h.kept (row := none) ⟨hb.os, hb.tape, hb.output, hb.size, fun k hk _ => hb.block k hk⟩ (by cases hv : v.ownBlock <;> simp)
theorem own_slice {w : World} {base : Nat} {e : TypeId} {size : Nat} {v : Value} {n : Nat} {xs : List Value} (h : w.ownsRow base e size v n xs) : ∃ a c, v = .slice a n c := by
  rcases h.2 with ⟨rfl, h0⟩ | ⟨g, cap, cur, rfl, _⟩
  · exact ⟨none, 0, by rw [h0]⟩
  · exact ⟨_, _, rfl⟩
theorem own_base {w : World} {b b' : Nat} {e : TypeId} {size : Nat} {v : Value} {n : Nat} {xs : List Value} (h : w.ownsRow b e size v n xs) (hb : b' ≤ b) : w.ownsRow b' e size v n xs := by
  refine ⟨h.1, ?_⟩
  rcases h.2 with h | ⟨g, cap, cur, rfl, h1, h2⟩
  · exact Or.inl h
  · exact Or.inr ⟨g, cap, cur, rfl, Nat.le_trans hb h1, h2⟩
theorem box_at (w w1 : World) (o : Array Value) (t : TypeId) (hB : Below (w.alloc (.cells o t)).heap.size (w.alloc (.cells o t)) w1) : w1.heap[w.heap.size]? = some (.cells o t (0, 0)) ∧ Below w.heap.size w w1 ∧ w.heap.size < w1.heap.size := by
  refine ⟨?_, below2 (below1 _ _) hB, ?_⟩
  · rw [hB.block _ (by simp)]; exact (MapKept.heap_alloc w _).1
  · have := hB.size; simp at this; omega
theorem box_new (w : World) (o : Array Value) (t : TypeId) : (w.alloc (.cells o t)).heap[w.heap.size]? = some (.cells o t (0, 0)) := (MapKept.heap_alloc w _).1

/-- A list as it lies in memory, a cell for each element. -/
structure CelAt {α : Type} (f : α → Value) (w : World) (b off : Nat) (l : List α) : Prop where
  lt : b < w.heap.size
  at_ : ∀ i, (h : i < l.length) → w.cell? ⟨b, off + i, none⟩ = some (f l[i])
def CelSl {α : Type} (f : α → Value) (w : World) (a : Option Addr) (l : List α) : Prop := l = [] ∨ ∃ b off, a = some ⟨b, off, none⟩ ∧ CelAt f w b off l
theorem CelAt.below {α : Type} {f : α → Value} {w w' : World} {b off : Nat} {l : List α} (h : CelAt f w b off l) (hB : Below w.heap.size w w') : CelAt f w' b off l :=
  ⟨Nat.lt_of_lt_of_le h.lt hB.size, fun i hi => cell_below (h.at_ i hi) hB⟩
theorem CelSl.below {α : Type} {f : α → Value} {w w' : World} {a : Option Addr} {l : List α} (h : CelSl f w a l) (hB : Below w.heap.size w w') : CelSl f w' a l := by
  rcases h with h | ⟨b, off, e, h⟩
  · exact Or.inl h
  · exact Or.inr ⟨b, off, e, h.below hB⟩
theorem CelSl.at {α : Type} {f : α → Value} {w : World} {a : Option Addr} {l : List α} (h : CelSl f w a l) {i : Nat} (hi : i < l.length) : ∃ b off, a = some ⟨b, off, none⟩ ∧ CelAt f w b off l := by
  rcases h with h | h
  · rw [h] at hi; simp at hi
  · exact h
theorem CelSl.upto {α : Type} {f : α → Value} {w : World} {a : Option Addr} {l : List α} (h : CelSl f w a l) (p : Nat) : CelSl f w a (l.take p) := by
  rcases h with rfl | ⟨b, off, e, h⟩
  · exact Or.inl (by simp)
  · refine Or.inr ⟨b, off, e, h.lt, fun i hi => ?_⟩
    simp only [List.length_take] at hi
    simp only [List.getElem_take]
    exact h.at_ i (by omega)
abbrev StrSl := @CelSl ByteArray Value.string
abbrev IntSl := @CelSl Int (Value.int .i64)
abbrev BoolSl := @CelSl Bool Value.bool
/-- Lists of numbers, each one a slice of its own. -/
structure RowAt (w : World) (b off : Nat) (l : List (List Int)) : Prop where
  lt : b < w.heap.size
  at_ : ∀ i, (h : i < l.length) → ∃ a c, w.cell? ⟨b, off + i, none⟩ = some (.slice a l[i].length c) ∧ (a = none → c = 0) ∧ l[i].length ≤ c ∧ IntSl w a l[i]
def RowSl (w : World) (a : Option Addr) (l : List (List Int)) : Prop := l = [] ∨ ∃ b off, a = some ⟨b, off, none⟩ ∧ RowAt w b off l
theorem RowAt.below {w w' : World} {b off : Nat} {l : List (List Int)} (h : RowAt w b off l) (hB : Below w.heap.size w w') : RowAt w' b off l :=
  ⟨Nat.lt_of_lt_of_le h.lt hB.size, fun i hi => by
    obtain ⟨a, c, h1, h2, h3, h4⟩ := h.at_ i hi
    exact ⟨a, c, cell_below h1 hB, h2, h3, h4.below hB⟩⟩
theorem RowSl.below {w w' : World} {a : Option Addr} {l : List (List Int)} (h : RowSl w a l) (hB : Below w.heap.size w w') : RowSl w' a l := by
  rcases h with h | ⟨b, off, e, h⟩
  · exact Or.inl h
  · exact Or.inr ⟨b, off, e, h.below hB⟩
theorem RowSl.at {w : World} {a : Option Addr} {l : List (List Int)} (h : RowSl w a l) {i : Nat} (hi : i < l.length) : ∃ b off, a = some ⟨b, off, none⟩ ∧ RowAt w b off l := by
  rcases h with h | h
  · rw [h] at hi; simp at hi
  · exact h
end Go.Proofs.Ythacjdlohmkpoaa

namespace Go.Proofs.Ythacjdlohmkpoaa
open Go.RowKit

/-- A list of numbers somewhere in a block of the call's own, with all its room. -/
structure QueAt (w : World) (base b off cap : Nat) (l : List Int) : Prop where
  base_ : base ≤ b
  le : l.length ≤ cap
  at_ : ∀ i, (h : i < l.length) → w.cell? ⟨b, off + i, none⟩ = some (.int .i64 l[i])
  room : ∀ i, i < cap → (w.cell? ⟨b, off + i, none⟩).isSome = true ∧ w.frozen? ⟨b, off + i, none⟩ = false
theorem QueAt.pop {w : World} {base b off cap : Nat} {x : Int} {l : List Int} (h : QueAt w base b off cap (x :: l)) : QueAt w base b (off + 1) (cap - 1) l := by
  have hle := h.le
  simp only [List.length_cons] at hle
  refine ⟨h.base_, by omega, fun i hi => ?_, fun i hi => ?_⟩
  · have := h.at_ (i + 1) (by simpa using hi)
    rw [show off + 1 + i = off + (i + 1) from by omega, this, List.getElem_cons_succ]
  · rw [show off + 1 + i = off + (i + 1) from by omega]
    exact h.room (i + 1) (by omega)
theorem QueAt.below {w w' : World} {base b off cap : Nat} {l : List Int} (h : QueAt w base b off cap l) (hB : Below w.heap.size w w') : QueAt w' base b off cap l := by
  refine ⟨h.base_, h.le, fun i hi => cell_below (h.at_ i hi) hB, fun i hi => ?_⟩
  obtain ⟨h1, h2⟩ := h.room i hi
  obtain ⟨v, hv⟩ := Option.isSome_iff_exists.1 h1
  refine ⟨by rw [cell_below hv hB]; rfl, ?_⟩
  rw [hB.frozen (World.block_lt_of_cell? _ _ hv)]; exact h2
theorem QueAt.other {w : World} {base b off cap : Nat} {l : List Int} (h : QueAt w base b off cap l) {p : Addr} (hp : p.block < base) (v : Value) : QueAt (w.setCell p v) base b off cap l := by
  have hb := h.base_
  have hne : ∀ k, p ≠ ⟨b, k, none⟩ := fun k e => by rw [e] at hp; simp at hp; omega
  refine ⟨h.base_, h.le, fun i hi => ?_, fun i hi => ?_⟩
  · rw [World.cell?_setCell_other _ _ _ _ (fun e => hne _ e)]; exact h.at_ i hi
  · rw [World.cell?_setCell_other _ _ _ _ (fun e => hne _ e), World.frozen?_setCell]; exact h.room i hi
theorem QueAt.push {w : World} {base b off cap : Nat} {l : List Int} (h : QueAt w base b off cap l) (hr : l.length + 1 ≤ cap) (k : Int) : QueAt (w.setCells b (off + l.length) [.int .i64 k]) base b off cap (l ++ [k]) := by
  show QueAt (w.setCell ⟨b, off + l.length, none⟩ (.int .i64 k)) base b off cap (l ++ [k])
  refine ⟨h.base_, by simpa using hr, fun i hi => ?_, fun i hi => ?_⟩
  · by_cases e : i = l.length
    · subst e
      rw [World.cell?_setCell_same' _ _ _ (h.room _ (by omega)).1]
      simp
    · have hi' : i < l.length := by simp at hi; omega
      rw [World.cell?_setCell_other _ _ _ _ (by intro q; have := congrArg Addr.off q; simp at this; omega), h.at_ i hi', List.getElem_append_left hi']
  · rw [World.frozen?_setCell]
    refine ⟨?_, (h.room i hi).2⟩
    by_cases e : i = l.length
    · subst e
      rw [World.cell?_setCell_same' _ _ _ (h.room _ (by omega)).1]; rfl
    · rw [World.cell?_setCell_other _ _ _ _ (by intro q; have := congrArg Addr.off q; simp at this; omega)]; exact (h.room i hi).1
theorem que_own {w : World} {base base' : Nat} {v : Value} {n : Nat} {l : List Int} {e : TypeId} (hb : base ≤ base') (h : w.ownsRow base' e 1 v n (l.map (Value.int .i64))) (hn : 0 < n) : ∃ b cap, v = .slice (some ⟨b, 0, none⟩) n cap ∧ QueAt w base b 0 cap l := by
  have hl := h.1
  rcases h.2 with ⟨_, h0⟩ | ⟨g, cap, cur, rfl, hbg, hg, hnc, _, hs, ht⟩
  · omega
  · rw [List.length_map, Nat.mul_one] at hl
    refine ⟨g, cap, rfl, by omega, by omega, fun i hi => ?_, fun i hi => ?_⟩
    · have hc : (l.map (Value.int .i64))[i]? = some (.int .i64 l[i]) := by simp [hi]
      simp only [World.cell?, hg, Nat.zero_add]
      rw [← ht, List.getElem?_take, if_pos (by omega)] at hc
      simpa using hc
    · refine ⟨?_, Lib.frozen_of_heap hg _⟩
      rw [Lib.cell_of_heap hg, Nat.zero_add, Array.getElem?_eq_getElem (by omega)]; rfl

theorem wpList_append_que {P : Program} (w : World) {ops : Array Oper} {rest : List Oper} {o : Oper} {a : Act} {Q : Exit → Act → World → Prop}
    (hg : o.guard = none) (s x : Operand) (t : TypeId) (hop : o.op = Op.call { callee := Callee.builtin Builtin.append, args := #[s, x], argTypes := #[t, t] })
    (e : TypeId) (i : TypeInfo) (h1 : P.underlying t = some (.slice e)) (h2 : P.info? e = some i) (h3 : i.zero = some (.int .i64 0)) (h4 : i.size = 1) (h5 : i.bytes = 8)
    (base b off cap : Nat) (l : List Int) (hs : a.eval s = .slice (some ⟨b, off, none⟩) l.length cap) (hq : QueAt w base b off cap l) (hbase : base ≤ w.heap.size)
    (ad : Addr) (c : Nat) (k : Int) (hx : a.eval x = .slice (some ad) 1 c) (hc : w.cell? (ad.add 0) = some (.int .i64 k)) (hl : l.length + 1 ≤ 1000000)
    (hK : ∀ b' off' cap' w', QueAt w' base b' off' cap' (l ++ [k]) → Below base w w' → wpList P ops Q rest (a.put o.dst (.slice (some ⟨b', off', none⟩) (l.length + 1) cap')) w') : wpList P ops Q (o :: rest) a w := by
  refine wpList_append_arg w hg s x t hop e i (.int .i64 0) 1 8 h1 h2 h3 h4 h5 rfl (by decide) b off l.length cap (l.map (Value.int .i64)) hs (by simp) ?_ ad 1 c [.int .i64 k] hx rfl ?_ ?_ ?_ (by unfold maxLen; omega) (by omega) ?_ ?_
  · intro j u hj
    rw [List.getElem?_map] at hj
    obtain ⟨y, hy, rfl⟩ := Option.map_eq_some_iff.1 hj
    obtain ⟨hjl, rfl⟩ := List.getElem?_eq_some_iff.1 hy
    exact hq.at_ j hjl
  · intro j u hj
    match j, hj with
    | 0, hj => simp at hj; subst hj; exact hc
  · intro u hu; simp at hu; subst hu; rfl
  · intro hr j hj
    have hj0 : j = 0 := by simpa using hj
    subst hj0
    rw [Nat.mul_one, Nat.add_zero]
    exact hq.room _ (by omega)
  · intro hr
    rw [Nat.mul_one]
    refine hK b off cap _ (hq.push hr k) ?_
    show Below base w (w.setCell ⟨b, off + l.length, none⟩ (.int .i64 k))
    exact (Below.refl base w).setCell (p := ⟨b, off + l.length, none⟩) hq.base_ _
  · intro _ v' w' hown hgr
    rw [show l.map (Value.int .i64) ++ [Value.int .i64 k] = (l ++ [k]).map (Value.int .i64) from by simp] at hown
    obtain ⟨b', cap', rfl, hq'⟩ := que_own hbase hown (by omega)
    refine hK b' 0 cap' w' hq' ?_
    exact (Below.refl base w).grown hgr hbase (fun k hk => by cases hk)
end Go.Proofs.Ythacjdlohmkpoaa

namespace Go.Proofs.Ythacjdlohmkpoaa
open Go.RowKit

/-- Marks as they lie in a block that may be written. -/
def FlB (w : World) (B n : Nat) (f : Nat → Bool) : Prop := ∀ i, i < n → w.cell? ⟨B, i, none⟩ = some (.bool (f i)) ∧ w.frozen? ⟨B, i, none⟩ = false
theorem FlB.below {w w' : World} {B n : Nat} {f : Nat → Bool} (h : FlB w B n f) (base : Nat) (hb : B < base) (hB : Below base w w') : FlB w' B n f :=
  fun i hi => ⟨(hB.cell (p := ⟨B, i, none⟩) hb).trans (h i hi).1, (hB.frozen (p := ⟨B, i, none⟩) hb).trans (h i hi).2⟩
theorem FlB.set {w : World} {B n : Nat} {f : Nat → Bool} (h : FlB w B n f) (y : Nat) (v : Bool) : FlB (w.setCell ⟨B, y, none⟩ (.bool v)) B n (fun i => if i = y then v else f i) := by
  intro i hi
  refine ⟨?_, by rw [World.frozen?_setCell]; exact (h i hi).2⟩
  by_cases e : i = y
  · subst e
    rw [World.cell?_setCell_same' _ _ _ (by rw [(h i hi).1]; rfl)]
    simp only [if_true]
  · rw [World.cell?_setCell_other _ _ _ _ (by intro q; have := congrArg Addr.off q; simp at this; omega)]
    simp only [if_neg e]
    exact (h i hi).1
abbrev blsA (n : Nat) : Array Value := madeCells #[.bool false] n
theorem blsA_at (n i : Nat) (h : i < n) : (blsA n)[i]? = some (.bool false) := by
  unfold blsA madeCells
  have h2 : i < ((Array.range n).map fun x => (#[Value.bool false] : Array Value)[x % 1]!).size := by simp; omega
  show ((Array.range n).map fun x => (#[Value.bool false] : Array Value)[x % 1]!)[i]? = _
  rw [Array.getElem?_eq_getElem h2]
  simp [Nat.mod_one]
theorem boolInfo : (Try.prog.info? 4).map (fun i => (i.zero, i.size, i.bytes)) = some (some (.bool false), 1, 1) := by kernel_rfl
theorem make_bools (n : Nat) (hn : n ≤ 1000000) (W : World) : (Instr.makeSlice 24 (.int .i64 n) (.int .i64 n)).run Try.prog W = .ok (.slice (some ⟨W.heap.size, 0, none⟩) n n) (W.alloc (.cells (blsA n) 4)) := by
  obtain ⟨i0, hi, hz0, hz1, hz2⟩ := info_parts boolInfo
  have h := run_make (P := Try.prog) W 24 4 i0 (.bool false) Try.underlying24 hi hz0 .i64 .i64 (n : Int) (n : Int) (by omega) (Int.le_refl _) (by rw [hz2]; omega) (by omega)
  rw [hz1, Int.toNat_natCast, Nat.mul_one] at h
  exact h
theorem flB_new (W : World) (n : Nat) : FlB (W.alloc (.cells (blsA n) 4)) W.heap.size n (fun _ => false) := by
  intro i hi
  have h := box_new W (blsA n) 4
  refine ⟨?_, Lib.frozen_of_heap h i⟩
  rw [Lib.cell_of_heap h]; exact blsA_at n i hi
def isT : Option Value → Bool
  | some (.bool b) => b
  | _ => false
def lenV : Value → Nat
  | .slice _ n _ => n
  | _ => 0
abbrev nats (l : List Nat) : List Int := l.map fun (x : Nat) => (x : Int)
theorem nats_len (l : List Nat) : (nats l).length = l.length := List.length_map _
end Go.Proofs.Ythacjdlohmkpoaa

namespace Go.Proofs.Ythacjdlohmkpoaa
open Go.RowKit

namespace M
structure Tb where
  name : ByteArray
  elems : List ByteArray
  above : List (List Int)
  wrong : List Bool
/-- Whether a table is not more than the statements look at. -/
def thinB (t : Tb) : Bool := decide (t.elems.length ≤ 20) && decide (t.above.length ≤ 20) && decide (t.wrong.length ≤ 20) && decide (t.name.size ≤ 30) && (t.elems.all fun s => decide (s.size ≤ 30)) && t.above.all fun l => decide (l.length ≤ 20)
end M
/-- Where the parts of a table lie. -/
structure Tp where
  ea : Option Addr
  ec : Nat
  aa : Option Addr
  ac : Nat
  wa : Option Addr
  wc : Nat
abbrev tbA (t : M.Tb) (p : Tp) : Array Value := #[.string t.name, .slice p.ea t.elems.length p.ec, .slice p.aa t.above.length p.ac, .slice p.wa t.wrong.length p.wc]
abbrev tbV (t : M.Tb) (p : Tp) : Value := .agg (tbA t p)
/-- A table in memory. -/
structure TbIn (w : World) (t : M.Tb) (p : Tp) : Prop where
  es : StrSl w p.ea t.elems
  as_ : RowSl w p.aa t.above
  ws : BoolSl w p.wa t.wrong
  en : p.ea = none → p.ec = 0
  an : p.aa = none → p.ac = 0
  wn : p.wa = none → p.wc = 0
  el : t.elems.length ≤ p.ec
  al : t.above.length ≤ p.ac
  wl : t.wrong.length ≤ p.wc
theorem TbIn.below {w w' : World} {t : M.Tb} {p : Tp} (h : TbIn w t p) (hB : Below w.heap.size w w') : TbIn w' t p := ⟨h.es.below hB, h.as_.below hB, h.ws.below hB, h.en, h.an, h.wn, h.el, h.al, h.wl⟩
/-- The cells of a box that holds a table. -/
structure TbBox (w : World) (B : Nat) (t : M.Tb) (p : Tp) : Prop where
  c0 : w.cell? ⟨B, 0, none⟩ = some (.string t.name)
  c1 : w.cell? ⟨B, 1, none⟩ = some (.slice p.ea t.elems.length p.ec)
  c2 : w.cell? ⟨B, 2, none⟩ = some (.slice p.aa t.above.length p.ac)
  c3 : w.cell? ⟨B, 3, none⟩ = some (.slice p.wa t.wrong.length p.wc)
theorem tbBox {w : World} {B : Nat} {t : M.Tb} {p : Tp} {ty : TypeId} (h : w.heap[B]? = some (.cells (tbA t p) ty (0, 0))) : TbBox w B t p :=
  ⟨by rw [Lib.cell_of_heap h]; rfl, by rw [Lib.cell_of_heap h]; rfl, by rw [Lib.cell_of_heap h]; rfl, by rw [Lib.cell_of_heap h]; rfl⟩
theorem TbBox.below {w w' : World} {B : Nat} {t : M.Tb} {p : Tp} (h : TbBox w B t p) (hB : Below w.heap.size w w') : TbBox w' B t p := ⟨cell_below h.c0 hB, cell_below h.c1 hB, cell_below h.c2 hB, cell_below h.c3 hB⟩

theorem M.thin_parts {t : M.Tb} : M.thinB t = true ↔ (t.elems.length ≤ 20 ∧ t.above.length ≤ 20 ∧ t.wrong.length ≤ 20 ∧ t.name.size ≤ 30) ∧ (∀ s, s ∈ t.elems → s.size ≤ 30) ∧ ∀ l, l ∈ t.above → l.length ≤ 20 := by
  unfold M.thinB
  simp only [Bool.and_eq_true, decide_eq_true_eq, List.all_eq_true]
  constructor
  · rintro ⟨⟨⟨⟨⟨a, b⟩, c⟩, d⟩, e⟩, f⟩; exact ⟨⟨a, b, c, d⟩, e, f⟩
  · rintro ⟨⟨a, b, c, d⟩, e, f⟩; exact ⟨⟨⟨⟨⟨a, b⟩, c⟩, d⟩, e⟩, f⟩

set_option maxHeartbeats 1000000 in
set_option maxRecDepth 100000 in
theorem thin_no (t : M.Tb) (p : Tp) (w : World) (h : ¬ (t.elems.length ≤ 20 ∧ t.above.length ≤ 20 ∧ t.wrong.length ≤ 20 ∧ t.name.size ≤ 30)) :
    Calls Try.prog 8 #[tbV t p] w fun e w' => e = .returned (.bool false) ∧ Below w.heap.size w w' := by
  have hb := tbBox (t := t) (p := p) (box_new w (tbA t p) 26)
  obtain ⟨c0, c1, c2, c3⟩ := hb
  by_cases h1 : t.elems.length ≤ 20
  · have d1 : decide ((20 : Int) < (t.elems.length : Int)) = false := decide_eq_false (by omega)
    by_cases h2 : t.above.length ≤ 20
    · have d2 : decide ((20 : Int) < (t.above.length : Int)) = false := decide_eq_false (by omega)
      by_cases h3 : t.wrong.length ≤ 20
      · have d3 : decide ((20 : Int) < (t.wrong.length : Int)) = false := decide_eq_false (by omega)
        have d4 : decide ((30 : Int) < (t.name.size : Int)) = true := decide_eq_true (by omega)
        clear h
        go_enter Try.func8, Try.ntmps8
        go_wp2_with fail
        go_ret
        exact ⟨rfl, below1 _ _⟩
      · have d3 : decide ((20 : Int) < (t.wrong.length : Int)) = true := decide_eq_true (by omega)
        clear h
        go_enter Try.func8, Try.ntmps8
        go_wp2_with fail
        go_ret
        exact ⟨rfl, below1 _ _⟩
    · have d2 : decide ((20 : Int) < (t.above.length : Int)) = true := decide_eq_true (by omega)
      clear h
      go_enter Try.func8, Try.ntmps8
      go_wp2_with fail
      go_ret
      exact ⟨rfl, below1 _ _⟩
  · have d1 : decide ((20 : Int) < (t.elems.length : Int)) = true := decide_eq_true (by omega)
    clear h
    go_enter Try.func8, Try.ntmps8
    go_wp2_with fail
    go_ret
    exact ⟨rfl, below1 _ _⟩

set_option maxHeartbeats 2000000 in
set_option maxRecDepth 100000 in
theorem thin_yes (t : M.Tb) (p : Tp) (w : World) (ht : TbIn w t p) (h1 : t.elems.length ≤ 20) (h2 : t.above.length ≤ 20) (h3 : t.wrong.length ≤ 20) (h4 : t.name.size ≤ 30) :
    Calls Try.prog 8 #[tbV t p] w fun e w' => e = .returned (.bool (M.thinB t)) ∧ Below w.heap.size w w' := by
  have d1 : decide ((20 : Int) < (t.elems.length : Int)) = false := decide_eq_false (by omega)
  have d2 : decide ((20 : Int) < (t.above.length : Int)) = false := decide_eq_false (by omega)
  have d3 : decide ((20 : Int) < (t.wrong.length : Int)) = false := decide_eq_false (by omega)
  have d4 : decide ((30 : Int) < (t.name.size : Int)) = false := decide_eq_false (by omega)
  have HT := Lib.hid (ht.below (below1 w (.cells (tbA t p) 26)))
  obtain ⟨c0, c1, c2, c3⟩ := tbBox (t := t) (p := p) (box_new w (tbA t p) 26)
  clear ht
  go_enter Try.func8, Try.ntmps8
  go_wp2_with fail
  go_loop [3] (fun i => ∃ k : Nat, k ≤ t.elems.length ∧ i = .int .i64 k ∧ Hid (∀ j, (hj : j < t.elems.length) → j < k → t.elems[j].size ≤ 30)) (fun i => t.elems.length - (intOf i).toNat)
  case atStart => exact ⟨0, by omega, rfl, Lib.hid (fun j _ hj => by omega)⟩
  case round =>
    obtain ⟨k, hk, rfl, HA⟩ := hrel
    by_cases hkl : k < t.elems.length
    · obtain ⟨b, off, e, ha⟩ := HT.out.es.at hkl
      have q := ha.at_ k hkl
      rw [e] at c1
      have n1 : (k : Int) < (t.elems.length : Int) := by omega
      have n2 : (0 : Int) ≤ (k : Int) := by omega
      have hno : 30 < t.elems[k].size → M.thinB t = false := fun hn => by
        cases hb : M.thinB t
        · rfl
        · have := (M.thin_parts.1 hb).2.1 _ (List.getElem_mem hkl); omega
      have hnx : t.elems[k].size ≤ 30 → ∀ j, (hj : j < t.elems.length) → j < k + 1 → t.elems[j].size ≤ 30 := fun hn j hj hjk => by
        rcases Nat.lt_succ_iff_lt_or_eq.1 hjk with h | rfl
        · exact HA.out j hj h
        · exact hn
      obtain ⟨x, hx⟩ : ∃ x, t.elems[k] = x := ⟨_, rfl⟩
      rw [hx] at q hno hnx
      have HNO := Lib.hid hno
      have HNX := Lib.hid hnx
      clear hx hno hnx ha e
      by_cases h30 : x.size ≤ 30
      · have d5 : decide ((30 : Int) < (x.size : Int)) = false := decide_eq_false (by omega)
        have HN := Lib.hid (HNX.out h30)
        go_wp2_with fail
        go_round
        case rel => exact ⟨k + 1, by omega, by go_num, HN⟩
        case measure => simp [intOf]; omega
      · have d5 : decide ((30 : Int) < (x.size : Int)) = true := decide_eq_true (by omega)
        have HN := Lib.hid (HNO.out (by omega))
        go_wp2_with fail
        go_ret
        exact ⟨ret_bool HN.out.symm, below1 _ _⟩
    · obtain rfl : k = t.elems.length := by omega
      have m1 : decide ((t.elems.length : Int) < (t.elems.length : Int)) = false := decide_eq_false (by omega)
      go_wp2_with fail
      go_loop [4] (fun i => ∃ k : Nat, k ≤ t.above.length ∧ i = .int .i64 k ∧ Hid (∀ j, (hj : j < t.above.length) → j < k → t.above[j].length ≤ 20)) (fun i => t.above.length - (intOf i).toNat)
      case atStart => exact ⟨0, by omega, rfl, Lib.hid (fun j _ hj => by omega)⟩
      case round =>
        obtain ⟨k, hk, rfl, HB⟩ := hrel
        by_cases hkl : k < t.above.length
        · obtain ⟨b, off, e, ha⟩ := HT.out.as_.at hkl
          obtain ⟨ra, rc, q, _, _, _⟩ := ha.at_ k hkl
          rw [e] at c2
          have n1 : (k : Int) < (t.above.length : Int) := by omega
          have n2 : (0 : Int) ≤ (k : Int) := by omega
          have hno : 20 < t.above[k].length → M.thinB t = false := fun hn => by
            cases hb : M.thinB t
            · rfl
            · have := (M.thin_parts.1 hb).2.2 _ (List.getElem_mem hkl); omega
          have hnx : t.above[k].length ≤ 20 → ∀ j, (hj : j < t.above.length) → j < k + 1 → t.above[j].length ≤ 20 := fun hn j hj hjk => by
            rcases Nat.lt_succ_iff_lt_or_eq.1 hjk with h | rfl
            · exact HB.out j hj h
            · exact hn
          obtain ⟨x, hx⟩ : ∃ x, t.above[k] = x := ⟨_, rfl⟩
          rw [hx] at q hno hnx
          have HNO := Lib.hid hno
          have HNX := Lib.hid hnx
          clear hx hno hnx ha e
          by_cases h30 : x.length ≤ 20
          · have d5 : decide ((20 : Int) < (x.length : Int)) = false := decide_eq_false (by omega)
            have HN := Lib.hid (HNX.out h30)
            go_wp2_with fail
            go_round
            case rel => exact ⟨k + 1, by omega, by go_num, HN⟩
            case measure => simp [intOf]; omega
          · have d5 : decide ((20 : Int) < (x.length : Int)) = true := decide_eq_true (by omega)
            have HN := Lib.hid (HNO.out (by omega))
            go_wp2_with fail
            go_ret
            exact ⟨ret_bool HN.out.symm, below1 _ _⟩
        · obtain rfl : k = t.above.length := by omega
          have m2 : decide ((t.above.length : Int) < (t.above.length : Int)) = false := decide_eq_false (by omega)
          have hyes : M.thinB t = true := M.thin_parts.2 ⟨⟨h1, h2, h3, h4⟩, fun s hs => by obtain ⟨j, hj, rfl⟩ := List.getElem_of_mem hs; exact HA.out j hj hj, fun l hl => by obtain ⟨j, hj, rfl⟩ := List.getElem_of_mem hl; exact HB.out j hj hj⟩
          have HY := Lib.hid hyes
          clear hyes
          go_wp2_with fail
          go_ret
          exact ⟨ret_bool HY.out.symm, below1 _ _⟩

theorem thinT_any (t : M.Tb) (p : Tp) (w : World) (ht : TbIn w t p) : Calls Try.prog 8 #[tbV t p] w fun e w' => e = .returned (.bool (M.thinB t)) ∧ Below w.heap.size w w' := by
  by_cases h : t.elems.length ≤ 20 ∧ t.above.length ≤ 20 ∧ t.wrong.length ≤ 20 ∧ t.name.size ≤ 30
  · exact thin_yes t p w ht h.1 h.2.1 h.2.2.1 h.2.2.2
  · have hn : M.thinB t = false := by
      cases hb : M.thinB t
      · rfl
      · exact absurd (M.thin_parts.1 hb).1 h
    rw [hn]
    exact thin_no t p w h
end Go.Proofs.Ythacjdlohmkpoaa

namespace Go.Proofs.Ythacjdlohmkpoaa
namespace M
def letB (c : UInt8) : Bool := decide (97 ≤ c.toNat) && decide (c.toNat ≤ 122)
def nameB (c : UInt8) : Bool := letB c || (decide (48 ≤ c.toNat) && decide (c.toNat ≤ 57))
def isNameB (s : List UInt8) : Bool := decide (1 ≤ s.length) && decide (s.length ≤ 12) && letB (s.headD 0) && s.all nameB
theorem size_list (s : ByteArray) : s.data.toList.length = s.size := Array.length_toList
theorem ba_ext {a b : ByteArray} (h : a.data.toList = b.data.toList) : a = b := by
  cases a with | mk a => cases b with | mk b =>
  have : a = b := Array.toList_inj.1 h
  rw [this]
/-- The kinds of bytes, by the numbers that are held against them. -/
theorem byte_cases (n : Nat) : (97 ≤ n ∧ n ≤ 122) ∨ (48 ≤ n ∧ n ≤ 57) ∨ n < 48 ∨ (57 < n ∧ n < 97) ∨ 122 < n := by omega
/-- The number of the first one of some texts that is a text, or how many they are. -/
def findN : List ByteArray → ByteArray → Nat
  | [], _ => 0
  | x :: l, s => if x = s then 0 else findN l s + 1
def findI (l : List ByteArray) (s : ByteArray) : Int := if findN l s < l.length then findN l s else -1
theorem findN_stop (l : List ByteArray) (s : ByteArray) : ∀ k, (hk : k < l.length) → (∀ j, (hj : j < l.length) → j < k → l[j] ≠ s) → l[k] = s → findN l s = k := by
  induction l with
  | nil => intro k hk; simp at hk
  | cons x l ih =>
    intro k hk hb hs
    unfold findN
    cases k with
    | zero =>
      have : x = s := hs
      rw [if_pos this]
    | succ k =>
      have h0 : x ≠ s := hb 0 (by simp) (by omega)
      rw [if_neg h0, ih k (by simpa using hk) (fun j hj hjk => hb (j + 1) (by simpa using hj) (by omega)) hs]
theorem findN_all (l : List ByteArray) (s : ByteArray) (h : ∀ j, (hj : j < l.length) → l[j] ≠ s) : findN l s = l.length := by
  induction l with
  | nil => rfl
  | cons x l ih =>
    unfold findN
    have h0 : x ≠ s := h 0 (by simp)
    rw [if_neg h0, ih (fun j hj => h (j + 1) (by simpa using hj)), List.length_cons]
theorem findI_stop (l : List ByteArray) (s : ByteArray) (k : Nat) (hk : k < l.length) (hb : ∀ j, (hj : j < l.length) → j < k → l[j] ≠ s) (hs : l[k] = s) : findI l s = k := by
  unfold findI; rw [findN_stop l s k hk hb hs, if_pos hk]
theorem findI_all (l : List ByteArray) (s : ByteArray) (h : ∀ j, (hj : j < l.length) → l[j] ≠ s) : findI l s = -1 := by
  unfold findI; rw [findN_all l s h, if_neg (by omega)]
theorem findN_le (l : List ByteArray) (s : ByteArray) : findN l s ≤ l.length := by
  induction l with
  | nil => exact Nat.le_refl _
  | cons x l ih =>
    unfold findN
    split
    · omega
    · rw [List.length_cons]; omega
theorem findN_at (l : List ByteArray) (s : ByteArray) (h : findN l s < l.length) : l[findN l s] = s ∧ ∀ j, (hj : j < l.length) → j < findN l s → l[j] ≠ s := by
  induction l with
  | nil => simp at h
  | cons x l ih =>
    by_cases hx : x = s
    · have e : findN (x :: l) s = 0 := by unfold findN; rw [if_pos hx]
      refine ⟨by simp only [e]; exact hx, fun j hj hjk => by omega⟩
    · have e : findN (x :: l) s = findN l s + 1 := by rw [findN, if_neg hx]
      have h' : findN l s < l.length := by rw [e, List.length_cons] at h; omega
      obtain ⟨h1, h2⟩ := ih h'
      refine ⟨by simp only [e, List.getElem_cons_succ]; exact h1, fun j hj hjk => ?_⟩
      cases j with
      | zero => exact hx
      | succ j => exact h2 j (by simpa using hj) (by omega)
theorem findN_mem (l : List ByteArray) (s : ByteArray) : findN l s < l.length ↔ s ∈ l := by
  constructor
  · intro h; obtain ⟨h1, _⟩ := findN_at l s h; rw [← h1]; exact List.getElem_mem _
  · intro h
    rcases Nat.lt_or_ge (findN l s) l.length with q | q
    · exact q
    · exfalso
      induction l with
      | nil => simp at h
      | cons x l ih =>
        by_cases hx : x = s
        · have e : findN (x :: l) s = 0 := by unfold findN; rw [if_pos hx]
          rw [e, List.length_cons] at q; omega
        · have e : findN (x :: l) s = findN l s + 1 := by rw [findN, if_neg hx]
          rw [e, List.length_cons] at q
          rcases List.mem_cons.1 h with h | h
          · exact hx h.symm
          · exact ih h (by omega)
theorem findI_neg (l : List ByteArray) (s : ByteArray) : findI l s < 0 ↔ s ∉ l := by
  rw [← findN_mem]
  unfold findI
  split
  · rename_i h; constructor
    · intro q; omega
    · intro q; exact absurd h q
  · rename_i h; exact ⟨fun _ => h, fun _ => by decide⟩
/-- The words that are no names of tables. -/
def words : List ByteArray := [⟨#[102, 108, 97, 103]⟩, ⟨#[109, 97, 120]⟩, ⟨#[115, 101, 116]⟩, ⟨#[111, 110, 99, 101]⟩, ⟨#[109, 97, 112]⟩, ⟨#[112, 97, 105, 114]⟩]
def isTabB (s : ByteArray) : Bool := isNameB s.data.toList && decide (findI words s < 0)
/-- Numbers that strictly ascend, and are some of the first n ones. -/
def asc (n : Nat) (l : List Int) : Prop := ∀ k, (h : k < l.length) → 0 ≤ l[k] ∧ l[k] < n ∧ (0 < k → l[k - 1]'(by omega) < l[k])
/-- Whether a table has its form. -/
structure form (t : Tb) : Prop where
  name : isTabB t.name = true
  one : 1 ≤ t.elems.length
  twelve : t.elems.length ≤ 12
  above : t.above.length = t.elems.length
  wrong : t.wrong.length = t.elems.length
  names : ∀ i, (h : i < t.elems.length) → isNameB t.elems[i].data.toList = true
  differ : ∀ i j, (hi : i < t.elems.length) → (hj : j < t.elems.length) → i < j → t.elems[i] ≠ t.elems[j]
  rows : ∀ i, (h : i < t.above.length) → asc t.elems.length t.above[i]
end M
end Go.Proofs.Ythacjdlohmkpoaa

namespace Go.Proofs.Ythacjdlohmkpoaa
open Go.RowKit

namespace M
/-- Whether a rune can be in no name. -/
def badR (x : Nat) : Bool := !(decide (97 ≤ x) && decide (x ≤ 122)) && (decide (x < 48) || decide (57 < x))
theorem badR_byte (c : UInt8) : badR c.toNat = !nameB c := by
  unfold badR nameB letB
  rw [Bool.eq_iff_iff]
  simp only [Bool.and_eq_true, Bool.or_eq_true, Bool.not_eq_true', decide_eq_true_eq, Bool.and_eq_false_iff, Bool.or_eq_false_iff, decide_eq_false_iff_not]
  omega
theorem badR_high (x : Nat) (h : 128 ≤ x) : badR x = true := by
  unfold badR
  simp only [Bool.and_eq_true, Bool.or_eq_true, Bool.not_eq_true', decide_eq_true_eq, Bool.and_eq_false_iff, decide_eq_false_iff_not]
  omega
/-- Where a byte stands first that can be in no name. -/
def endN (s : List UInt8) : Nat := s.findIdx fun c => !nameB c
theorem name_low (c : UInt8) (h : nameB c = true) : c.toNat < 128 := by
  unfold nameB letB at h
  simp only [Bool.and_eq_true, Bool.or_eq_true, decide_eq_true_eq] at h
  omega
theorem idx_all (s : ByteArray) (h : ∀ j, (hj : j < s.size) → nameB s[j] = true) : ∀ f pos, Lib.idxFuncFrom badR true s f pos = -1 := by
  intro f
  induction f with
  | zero => intro pos; rfl
  | succ f ih =>
    intro pos
    unfold Lib.idxFuncFrom
    by_cases hp : pos < s.size
    · rw [if_pos hp, decode_ascii s pos hp (name_low _ (h pos hp)), badR_byte, h pos hp, if_neg (by decide)]
      exact ih _
    · rw [if_neg hp]
theorem idx_some (s : ByteArray) (k : Nat) (hk : k < s.size) (hb : nameB s[k] = false) (h : ∀ j, (hj : j < s.size) → j < k → nameB s[j] = true) : ∀ f pos, pos ≤ k → k < pos + f → Lib.idxFuncFrom badR true s f pos = k := by
  intro f
  induction f with
  | zero => intro pos h1 h2; omega
  | succ f ih =>
    intro pos h1 h2
    unfold Lib.idxFuncFrom
    have hp : pos < s.size := by omega
    rw [if_pos hp]
    by_cases he : pos = k
    · subst he
      have : badR (Utf8.decode s pos).1 = true := by
        by_cases ha : (s[pos]'hp).toNat < 128
        · rw [decode_ascii s pos hp ha, badR_byte, hb]; rfl
        · exact badR_high _ (decode_high s pos hp (by omega)).1
      rw [if_pos this]
    · have hn := h pos hp (by omega)
      rw [decode_ascii s pos hp (name_low _ hn), badR_byte, hn, if_neg (by decide)]
      exact ih _ (by omega) (by omega)
theorem idx_end (s : ByteArray) : (Lib.idxFunc badR true s = -1 ∧ endN s.data.toList = s.size ∧ s.data.toList.all nameB = true) ∨ (Lib.idxFunc badR true s = endN s.data.toList ∧ endN s.data.toList < s.size ∧ s.data.toList.all nameB = false) := by
  by_cases h : endN s.data.toList < s.data.toList.length
  · right
    have hl := size_list s
    have h1 : nameB (s.data.toList[endN s.data.toList]'h) = false := by
      have := List.findIdx_getElem (xs := s.data.toList) (p := fun c => !nameB c) (w := h)
      rw [Bool.not_eq_true'] at this; exact this
    refine ⟨idx_some s _ (by omega) h1 (fun j hj hjk => ?_) s.size 0 (by omega) (by omega), by omega, ?_⟩
    · have := List.not_of_lt_findIdx (xs := s.data.toList) (p := fun c => !nameB c) hjk
      have h2 : nameB (s.data.toList[j]'(by omega)) = true := by simpa using this
      exact h2
    · rw [List.all_eq_false]
      exact ⟨_, List.getElem_mem h, by rw [h1]; decide⟩
  · left
    have hl := size_list s
    have he : endN s.data.toList = s.data.toList.length := by
      have : endN s.data.toList ≤ s.data.toList.length := List.findIdx_le_length
      omega
    have hall : ∀ c, c ∈ s.data.toList → nameB c = true := fun c hc => by
      have := List.findIdx_eq_length.1 he c hc
      simpa using this
    refine ⟨idx_all s (fun j hj => hall _ ?_) _ _, by omega, List.all_eq_true.2 hall⟩
    have : s.data.toList[j]'(by omega) = s[j] := rfl
    rw [← this]; exact List.getElem_mem _
end M

set_option maxHeartbeats 1000000 in
set_option maxRecDepth 100000 in
theorem isLetter_any (x : Int) (w : World) : Calls Try.prog 101 #[.int .i32 x] w fun e w' => e = .returned (.bool (decide (97 ≤ x) && decide (x ≤ 122))) ∧ w = w' := by
  cases h : decide (97 ≤ x) with
  | true =>
    go_enter Try.func101, Try.ntmps101
    go_wp2_with fail
    go_ret
    exact ⟨rfl, rfl⟩
  | false =>
    go_enter Try.func101, Try.ntmps101
    go_wp2_with fail
    go_ret
    exact ⟨rfl, rfl⟩

set_option maxHeartbeats 1000000 in
set_option maxRecDepth 100000 in
theorem nameEnd1_any (x : Nat) (w : World) : Calls Try.prog 112 #[.int .i32 x] w fun e w' => e = .returned (.bool (M.badR x)) ∧ w = w' := by
  have hcall := isLetter_any x w
  by_cases hl : 97 ≤ x ∧ x ≤ 122
  · have e1 : (decide ((97 : Int) ≤ (x : Int)) && decide ((x : Int) ≤ 122)) = true := by simp only [Bool.and_eq_true, decide_eq_true_eq]; omega
    rw [e1] at hcall
    have HC := Lib.hid hcall
    have hr : M.badR x = false := by unfold M.badR; rw [decide_eq_true hl.1, decide_eq_true hl.2]; rfl
    have HR := Lib.hid hr
    clear hcall hr e1 hl
    go_enter Try.func112, Try.ntmps112
    go_wp2_with fail
    refine HC.out.mono ?_
    rintro e w1 ⟨rfl, rfl⟩
    go_wp2_with fail
    go_ret
    exact ⟨ret_bool HR.out.symm, rfl⟩
  · have e1 : (decide ((97 : Int) ≤ (x : Int)) && decide ((x : Int) ≤ 122)) = false := by
      cases hb : (decide ((97 : Int) ≤ (x : Int)) && decide ((x : Int) ≤ 122))
      · rfl
      · simp only [Bool.and_eq_true, decide_eq_true_eq] at hb; omega
    have e2 : (decide (97 ≤ x) && decide (x ≤ 122)) = false := by
      cases hb : (decide (97 ≤ x) && decide (x ≤ 122))
      · rfl
      · simp only [Bool.and_eq_true, decide_eq_true_eq] at hb; omega
    rw [e1] at hcall
    have HC := Lib.hid hcall
    by_cases h1 : x < 48
    · have d1 : decide ((x : Int) < 48) = true := decide_eq_true (by omega)
      have hr : M.badR x = true := by unfold M.badR; rw [e2, decide_eq_true h1]; rfl
      have HR := Lib.hid hr
      clear hcall hr e1 e2 hl h1
      go_enter Try.func112, Try.ntmps112
      go_wp2_with fail
      refine HC.out.mono ?_
      rintro e w1 ⟨rfl, rfl⟩
      go_wp2_with fail
      go_ret
      exact ⟨ret_bool HR.out.symm, rfl⟩
    · have d1 : decide ((x : Int) < 48) = false := decide_eq_false (by omega)
      have hr : M.badR x = decide ((57 : Int) < (x : Int)) := by
        unfold M.badR; rw [e2, decide_eq_false h1, Bool.eq_iff_iff]
        simp only [Bool.not_false, Bool.false_or, Bool.true_and, decide_eq_true_eq]
        omega
      have HR := Lib.hid hr
      clear hcall hr e1 e2 hl h1
      go_enter Try.func112, Try.ntmps112
      go_wp2_with fail
      refine HC.out.mono ?_
      rintro e w1 ⟨rfl, rfl⟩
      go_wp2_with fail
      go_ret
      exact ⟨ret_bool HR.out.symm, rfl⟩

theorem enters_nameEnd1 : ∀ args w, (callFunc 112 args).run Try.prog w = .ok (.enter 112 args) w := enters_of Try.func112 (by kernel_rfl) rfl

set_option maxHeartbeats 1000000 in
set_option maxRecDepth 100000 in
theorem nameEnd_any (s : ByteArray) (w : World) : Calls Try.prog 102 #[.string s] w fun e w' => e = .returned (.int .i64 (M.endN s.data.toList)) ∧ Below w.heap.size w w' := by
  have cI := Try.strings_IndexFunc_runes 112 #[] enters_nameEnd1 M.badR s w (fun W x _ _ => (nameEnd1_any x W).mono fun e w' ⟨he, hw⟩ => ⟨he, 0, hw.symm⟩)
  rcases M.idx_end s with ⟨h1, h2, _⟩ | ⟨h1, h2, _⟩
  · rw [h1] at cI
    have HC := Lib.hid cI
    have HR := Lib.hid h2
    clear cI h1 h2
    go_enter Try.func102, Try.ntmps102
    go_wp2_with fail
    refine HC.out.mono ?_
    rintro e w1 ⟨rfl, hB⟩
    go_wp2_with fail
    go_ret
    exact ⟨ret_int (by rw [HR.out]), hB⟩
  · rw [h1] at cI
    have HC := Lib.hid cI
    have d1 : decide (((M.endN s.data.toList : Nat) : Int) < 0) = false := decide_eq_false (by omega)
    clear cI h1 h2
    go_enter Try.func102, Try.ntmps102
    go_wp2_with fail
    refine HC.out.mono ?_
    rintro e w1 ⟨rfl, hB⟩
    go_wp2_with fail
    go_ret
    exact ⟨rfl, hB⟩
end Go.Proofs.Ythacjdlohmkpoaa

namespace Go.Proofs.Ythacjdlohmkpoaa
open Go.RowKit

set_option maxHeartbeats 1000000 in
set_option maxRecDepth 100000 in
theorem in_any (n a b : Int) (w : World) : Calls Try.prog 42 #[.int .i64 n, .int .i64 a, .int .i64 b] w fun e w' => e = .returned (.bool (decide (a ≤ n) && decide (n ≤ b))) ∧ w = w' := by
  cases h : decide (a ≤ n) with
  | true =>
    go_enter Try.func42, Try.ntmps42
    go_wp2_with fail
    go_ret
    exact ⟨rfl, rfl⟩
  | false =>
    go_enter Try.func42, Try.ntmps42
    go_wp2_with fail
    go_ret
    exact ⟨rfl, rfl⟩

set_option maxHeartbeats 1000000 in
set_option maxRecDepth 100000 in
theorem sameInts_q (a a' : Option Addr) (c c' : Nat) (l m : List Int) (w : World) (hl : l.length ≤ 1000000) (ho : IntSl w a l) (hn : IntSl w a' m) :
    Calls Try.prog 21 #[.slice a l.length c, .slice a' m.length c'] w fun e w' => e = .returned (.bool (decide (l = m))) ∧ ∃ q, w' = w.drewN q := by
  have HO := Lib.hid ho
  have HN := Lib.hid hn
  clear ho hn
  by_cases hlen : l.length = m.length
  · have h1 : ((l.length : Int) == (m.length : Int)) = true := by rw [hlen]; exact beq_self_eq_true _
    have h2 : ((l.length : Int) != (m.length : Int)) = false := by rw [hlen]; exact bne_self_eq_false _
    have HLEN := Lib.hid hlen
    clear hlen
    go_enter Try.func21, Try.ntmps21
    go_wp2_with fail
    go_loopw [5] (fun i wr => ∃ k : Nat, k ≤ l.length ∧ i = .int .i64 k ∧ Hid (∀ j, (h : j < l.length) → (h2 : j < m.length) → j < k → l[j] = m[j]) ∧ ∃ q, Hid (wr = w.drewN q)) (fun i _ => l.length - (intOf i).toNat)
    case atStart => exact ⟨0, by omega, rfl, Lib.hid (fun j _ _ h => by omega), 0, Lib.hid rfl⟩
    case round =>
      rename_i wr
      obtain ⟨k, hk, rfl, HALL, q, HQ⟩ := hrel
      have hB : Below w.heap.size w wr := by rw [HQ.out]; exact belowN (Below.refl _ _) q
      by_cases hkl : k < l.length
      · have hkm : k < m.length := by rw [← HLEN.out]; exact hkl
        obtain ⟨b, off, rfl, ha⟩ := HO.out.at hkl
        obtain ⟨b', off', rfl, ha'⟩ := HN.out.at hkm
        have c0 := (ha.below hB).at_ k hkl
        have d0 := (ha'.below hB).at_ k hkm
        have n1 : (k : Int) < (l.length : Int) := by omega
        have n3 : (k : Int) < (m.length : Int) := by omega
        have n2 : (0 : Int) ≤ (k : Int) := by omega
        have hno : l[k] ≠ m[k] → decide (l = m) = false := fun hne => decide_eq_false fun e => hne (by simp only [e])
        have hnx : l[k] = m[k] → ∀ j, (h : j < l.length) → (h2 : j < m.length) → j < k + 1 → l[j] = m[j] := by
          intro hp j q1 q2 hj
          rcases Nat.lt_succ_iff_lt_or_eq.1 hj with hj | rfl
          · exact HALL.out j q1 q2 hj
          · exact hp
        obtain ⟨x, hx⟩ : ∃ x, l[k] = x := ⟨_, rfl⟩
        obtain ⟨y, hy⟩ : ∃ y, m[k] = y := ⟨_, rfl⟩
        rw [hx] at c0 hno hnx
        rw [hy] at d0 hno hnx
        have HNO := Lib.hid hno
        have HNX := Lib.hid hnx
        clear ha ha' hx hy hno hnx
        by_cases hxy : x = y
        · have k1 : (x == y) = true := by rw [hxy]; exact beq_self_eq_true _
          have k2 : (x != y) = false := by rw [hxy]; exact bne_self_eq_false _
          have HN2 := Lib.hid (HNX.out hxy)
          clear hxy
          go_wp2_with fail
          go_quiet (fail)
          go_wp2_with fail
          exact ⟨⟨k + 1, by omega, by simp, HN2, _, Lib.hid (by rw [HQ.out, World.drewN_drewN])⟩, by simp [intOf]; omega⟩
        · have k1 : (x == y) = false := by rw [beq_eq_false_iff_ne]; exact hxy
          have k2 : (x != y) = true := by rw [bne_iff_ne]; exact hxy
          have HR := Lib.hid (HNO.out hxy)
          clear hxy
          go_wp2_with fail
          go_quiet (fail)
          go_wp2_with fail
          go_ret
          exact ⟨ret_bool HR.out.symm, _, by rw [HQ.out, World.drewN_drewN]⟩
      · have hkl' : ¬ (k : Int) < (l.length : Int) := by omega
        have hres : decide (l = m) = true := decide_eq_true (List.ext_getElem HLEN.out fun j q1 q2 => HALL.out j q1 q2 (by omega))
        have HRES := Lib.hid hres
        clear hres
        go_wp2_with fail
        go_ret
        exact ⟨ret_bool HRES.out.symm, q, HQ.out⟩
  · have h1 : ((l.length : Int) == (m.length : Int)) = false := by rw [beq_eq_false_iff_ne]; omega
    have h2 : ((l.length : Int) != (m.length : Int)) = true := by rw [bne_iff_ne]; omega
    have hres : decide (l = m) = false := decide_eq_false fun e => hlen (by rw [e])
    have HRES := Lib.hid hres
    clear hres hlen
    go_enter Try.func21, Try.ntmps21
    go_wp2_with fail
    go_ret
    exact ⟨ret_bool HRES.out.symm, 0, rfl⟩

theorem sameInts_any (a a' : Option Addr) (c c' : Nat) (l m : List Int) (w : World) (hl : l.length ≤ 1000000) (ho : IntSl w a l) (hn : IntSl w a' m) :
    Calls Try.prog 21 #[.slice a l.length c, .slice a' m.length c'] w fun e w' => e = .returned (.bool (decide (l = m))) ∧ Below w.heap.size w w' :=
  (sameInts_q a a' c c' l m w hl ho hn).mono fun _ _ ⟨he, q, hq⟩ => ⟨he, by rw [hq]; exact belowN (Below.refl _ _) q⟩

set_option maxHeartbeats 4000000 in
set_option maxRecDepth 100000 in
/-- Tables that are the same are said to be. -/
theorem sameTable_same (t : M.Tb) (p p' : Tp) (w : World) (h1 : t.elems.length ≤ 1000000) (h2 : t.above.length ≤ 1000000) (h3 : t.wrong.length ≤ 1000000) (h4 : ∀ l, l ∈ t.above → l.length ≤ 1000000) (ht : TbIn w t p) (ht' : TbIn w t p') :
    Calls Try.prog 15 #[tbV t p, tbV t p'] w fun e w' => e = .returned (.bool true) ∧ Below w.heap.size w w' := by
  have hBB : Below w.heap.size w ((w.alloc (.cells (tbA t p) 26)).alloc (.cells (tbA t p') 26)) := belowA (below1 w _) _
  have hb1 := (tbBox (t := t) (p := p) (box_new w (tbA t p) 26)).below (below1 _ (.cells (tbA t p') 26))
  have hb2 := tbBox (t := t) (p := p') (box_new (w.alloc (.cells (tbA t p) 26)) (tbA t p') 26)
  rw [World.size_alloc] at hb2
  obtain ⟨W0, hW0⟩ : ∃ W0, ((w.alloc (.cells (tbA t p) 26)).alloc (.cells (tbA t p') 26)) = W0 := ⟨_, rfl⟩
  have HT := Lib.hid (ht.below hBB)
  have HT' := Lib.hid (ht'.below hBB)
  rw [hW0] at HT HT' hb1 hb2 hBB
  have hz : w.heap.size + 2 ≤ W0.heap.size := by rw [← hW0]; simp
  have e1 : (t.name.toList == t.name.toList) = true := beq_self_eq_true _
  have e2 : (t.name.toList != t.name.toList) = false := bne_self_eq_false _
  have e3 : ((t.elems.length : Int) != (t.elems.length : Int)) = false := bne_self_eq_false _
  have e4 : ((t.above.length : Int) != (t.above.length : Int)) = false := bne_self_eq_false _
  have e5 : ((t.wrong.length : Int) != (t.wrong.length : Int)) = false := bne_self_eq_false _
  obtain ⟨x0, x1, x2, x3⟩ := hb1
  obtain ⟨y0, y1, y2, y3⟩ := hb2
  have HB := Lib.hid hBB
  have H4 := Lib.hid h4
  clear ht ht' hBB h4
  go_enter Try.func15, Try.ntmps15
  go_wp2_with fail
  clear hW0
  go_loopw [5] (fun i wr => ∃ k : Nat, k ≤ t.elems.length ∧ i = .int .i64 k ∧ Below W0.heap.size W0 wr) (fun i _ => t.elems.length - (intOf i).toNat)
  case atStart => exact ⟨0, by omega, rfl, Below.refl _ _⟩
  case round =>
    rename_i wr
    obtain ⟨k, hk, rfl, hB⟩ := hrel
    have u1 := cell_below x1 hB
    have v1 := cell_below y1 hB
    by_cases hkl : k < t.elems.length
    · obtain ⟨b, off, ea, ha⟩ := (HT.out.below hB).es.at hkl
      obtain ⟨b', off', ea', ha'⟩ := (HT'.out.below hB).es.at hkl
      have c0 := ha.at_ k hkl
      have d0 := ha'.at_ k hkl
      obtain ⟨x, hx⟩ : ∃ x, t.elems[k] = x := ⟨_, rfl⟩
      rw [hx] at c0 d0
      rw [ea] at u1
      rw [ea'] at v1
      have n1 : (k : Int) < (t.elems.length : Int) := by omega
      have n2 : (0 : Int) ≤ (k : Int) := by omega
      have k1 : (x.toList == x.toList) = true := beq_self_eq_true _
      have k2 : (x.toList != x.toList) = false := bne_self_eq_false _
      clear ha ha' hx ea ea'
      go_wp2_with fail
      go_quiet (fail)
      go_wp2_with fail
      exact ⟨⟨k + 1, by omega, by simp, belowN hB _⟩, by simp [intOf]; omega⟩
    · obtain rfl : k = t.elems.length := by omega
      have m1 : decide ((t.elems.length : Int) < (t.elems.length : Int)) = false := decide_eq_false (by omega)
      go_wp2_with fail
      go_loopw [6] (fun i wo => ∃ k : Nat, k ≤ t.above.length ∧ i = .int .i64 k ∧ Below W0.heap.size W0 wo) (fun i _ => t.above.length - (intOf i).toNat)
      case atStart => exact ⟨0, by omega, rfl, hB⟩
      case round =>
        clear u1 v1 hB
        rename World => wo
        obtain ⟨k, hk, rfl, hB⟩ := hrel
        have u2 := cell_below x2 hB
        have v2 := cell_below y2 hB
        by_cases hkl : k < t.above.length
        · obtain ⟨b, off, ea, ha⟩ := (HT.out.below hB).as_.at hkl
          obtain ⟨b', off', ea', ha'⟩ := (HT'.out.below hB).as_.at hkl
          obtain ⟨ra, rc, c0, _, _, g1⟩ := ha.at_ k hkl
          obtain ⟨ra', rc', d0, _, _, g2⟩ := ha'.at_ k hkl
          have hlen := H4.out t.above[k] (List.getElem_mem hkl)
          obtain ⟨x, hx⟩ : ∃ x, t.above[k] = x := ⟨_, rfl⟩
          rw [hx] at c0 d0 g1 g2 hlen
          rw [ea] at u2
          rw [ea'] at v2
          have n1 : (k : Int) < (t.above.length : Int) := by omega
          have n2 : (0 : Int) ≤ (k : Int) := by omega
          have hcall : ∀ n, Calls Try.prog 21 #[.slice ra x.length rc, .slice ra' x.length rc'] (wo.drewN n) fun e w' => e = .returned (.bool true) ∧ ∃ q, w' = (wo.drewN n).drewN q := fun n => by
            have := sameInts_q ra ra' rc rc' x x (wo.drewN n) hlen (g1.below (belowN (Below.refl _ _) n)) (g2.below (belowN (Below.refl _ _) n))
            rw [decide_eq_true rfl] at this
            exact this
          have HCALL := Lib.hid hcall
          clear ha ha' hx ea ea' g1 g2 hcall
          go_wp2_with fail
          go_quiet ((go_at_call 21; exact Calls.quiet_of (HCALL.out _)))
          go_wp2_with fail
          exact ⟨⟨k + 1, by omega, by simp, belowN hB _⟩, by simp [intOf]; omega⟩
        · obtain rfl : k = t.above.length := by omega
          have m2 : decide ((t.above.length : Int) < (t.above.length : Int)) = false := decide_eq_false (by omega)
          go_wp2_with fail
          go_loopw [7] (fun i wp => ∃ k : Nat, k ≤ t.wrong.length ∧ i = .int .i64 k ∧ Below W0.heap.size W0 wp) (fun i _ => t.wrong.length - (intOf i).toNat)
          case atStart => exact ⟨0, by omega, rfl, hB⟩
          case round =>
            clear u2 v2 hB
            rename World => wp
            obtain ⟨k, hk, rfl, hB⟩ := hrel
            have u3 := cell_below x3 hB
            have v3 := cell_below y3 hB
            by_cases hkl : k < t.wrong.length
            · obtain ⟨b, off, ea, ha⟩ := (HT.out.below hB).ws.at hkl
              obtain ⟨b', off', ea', ha'⟩ := (HT'.out.below hB).ws.at hkl
              have c0 := ha.at_ k hkl
              have d0 := ha'.at_ k hkl
              obtain ⟨x, hx⟩ : ∃ x, t.wrong[k] = x := ⟨_, rfl⟩
              rw [hx] at c0 d0
              rw [ea] at u3
              rw [ea'] at v3
              have n1 : (k : Int) < (t.wrong.length : Int) := by omega
              have n2 : (0 : Int) ≤ (k : Int) := by omega
              have k1 : (x == x) = true := beq_self_eq_true _
              have k2 : (x != x) = false := bne_self_eq_false _
              clear ha ha' hx ea ea'
              go_wp2_with fail
              go_quiet (fail)
              go_wp2_with fail
              exact ⟨⟨k + 1, by omega, by simp, belowN hB _⟩, by simp [intOf]; omega⟩
            · obtain rfl : k = t.wrong.length := by omega
              have m3 : decide ((t.wrong.length : Int) < (t.wrong.length : Int)) = false := decide_eq_false (by omega)
              have hBf : Below w.heap.size w wp := HB.out.trans (hB.mono (by omega))
              go_wp2_with fail
              go_ret
              exact ⟨rfl, hBf⟩
end Go.Proofs.Ythacjdlohmkpoaa

namespace Go.Proofs.Ythacjdlohmkpoaa
open Go.RowKit

theorem getD_0 (s : ByteArray) (h : 0 < s.size) : s.data.toList.headD 0 = s[0] := by
  have h2 : 0 < s.data.toList.length := by rw [M.size_list]; exact h
  cases hl : s.data.toList with
  | nil => rw [hl] at h2; simp at h2
  | cons x l =>
    have : s.data.toList[0]'h2 = x := by simp only [hl]; rfl
    rw [List.headD_cons, ← this]; rfl

set_option maxHeartbeats 2000000 in
set_option maxRecDepth 100000 in
theorem refIsName_any (s : ByteArray) (w : World) (hs : s.size ≤ maxLen) : Calls Try.prog 49 #[.string s] w fun e w' => e = .returned (.bool (M.isNameB s.data.toList)) ∧ w = w' := by
  unfold maxLen at hs
  have hls := M.size_list s
  by_cases h1 : 1 ≤ s.size ∧ s.size ≤ 12
  · have d1 : decide ((1 : Int) ≤ (s.size : Int)) = true := decide_eq_true (by omega)
    have d2 : decide ((s.size : Int) ≤ 12) = true := decide_eq_true (by omega)
    have hsz : 0 < s.size := h1.1
    have h0 := getD_0 s hsz
    have hcall := in_any s.size 1 12 w
    rw [d1, d2] at hcall
    have HC := Lib.hid hcall
    have hno : ∀ P : Prop, (M.isNameB s.data.toList = true → P) → ¬ P → M.isNameB s.data.toList = false := fun P h hn => by
      cases hb : M.isNameB s.data.toList
      · rfl
      · exact absurd (h hb) hn
    have hp : M.isNameB s.data.toList = true → M.letB s[0] = true ∧ ∀ c, c ∈ s.data.toList → M.nameB c = true := fun h => by
      unfold M.isNameB at h
      rw [h0] at h
      simp only [Bool.and_eq_true, List.all_eq_true] at h
      exact ⟨h.1.2, h.2⟩
    have hq : M.letB s[0] = true → (∀ j, (hj : j < s.size) → M.nameB s[j] = true) → M.isNameB s.data.toList = true := fun ha hb => by
      unfold M.isNameB
      rw [h0, ha, hls]
      simp only [Bool.and_eq_true, decide_eq_true_eq, List.all_eq_true]
      refine ⟨⟨⟨h1.1, h1.2⟩, trivial⟩, fun c hc => ?_⟩
      obtain ⟨j, hj, rfl⟩ := List.getElem_of_mem hc
      exact hb j (by omega)
    obtain ⟨c0, hc0⟩ : ∃ c, s[0] = c := ⟨_, rfl⟩
    rw [hc0] at hp hq
    have HNO := Lib.hid hno
    have HP := Lib.hid hp
    have HQ := Lib.hid hq
    have hc0' : s[0]'hsz = c0 := hc0
    have z0 : (0 : Int) < (s.size : Int) := by omega
    clear d1 d2 hcall hno hp hq h0 h1
    by_cases hl : M.letB c0 = true
    · have hl2 := hl
      unfold M.letB at hl2
      simp only [Bool.and_eq_true, decide_eq_true_eq] at hl2
      have e1 : decide ((c0.toNat : Int) < 97) = false := decide_eq_false (by omega)
      have e2 : decide ((122 : Int) < (c0.toNat : Int)) = false := decide_eq_false (by omega)
      have HL := Lib.hid hl
      clear hl hl2
      go_enter Try.func49, Try.ntmps49
      go_wp2_with fail
      refine HC.out.mono ?_
      rintro e w1 ⟨rfl, rfl⟩
      go_wp2_with fail
      go_loop [3] (fun i => ∃ k : Nat, k ≤ s.size ∧ i = .int .i64 k ∧ Hid (∀ j, (hj : j < s.size) → j < k → M.nameB s[j] = true)) (fun i => s.size - (intOf i).toNat)
      case atStart => exact ⟨0, by omega, rfl, Lib.hid (fun j _ hj => by omega)⟩
      case round =>
        obtain ⟨k, hk, rfl, HA⟩ := hrel
        by_cases hkl : k < s.size
        · obtain ⟨ch, hch⟩ : ∃ ch, s[k]'hkl = ch := ⟨_, rfl⟩
          have hx : M.nameB ch = true → ∀ j, (hj : j < s.size) → j < k + 1 → M.nameB s[j] = true := fun hg j hj hjk => by
            rcases Nat.lt_succ_iff_lt_or_eq.1 hjk with h | rfl
            · exact HA.out j hj h
            · rw [hch]; exact hg
          have hy : M.nameB ch = false → M.isNameB s.data.toList = false := fun hg => by
            cases hb : M.isNameB s.data.toList
            · rfl
            · have h2 := (HP.out hb).2 ch (by
                have : s.data.toList[k]'(by omega) = ch := hch
                rw [← this]; exact List.getElem_mem _)
              rw [h2] at hg; cases hg
          have HX := Lib.hid hx
          have HY := Lib.hid hy
          have n1 : (k : Int) < (s.size : Int) := by omega
          have n2 : (0 : Int) ≤ (k : Int) := by omega
          clear hx hy
          rcases M.byte_cases ch.toNat with q | q | q | q | q
          · have hg : M.nameB ch = true := by unfold M.nameB M.letB; simp only [Bool.or_eq_true, Bool.and_eq_true, decide_eq_true_eq]; omega
            have HNX := Lib.hid (HX.out hg)
            clear hg
            have g1 : decide ((97 : Int) ≤ (ch.toNat : Int)) = true := decide_eq_true (by omega)
            have g2 : decide ((ch.toNat : Int) ≤ 122) = true := decide_eq_true (by omega)
            go_wp2_with fail
            go_round
            case rel => exact ⟨k + 1, by omega, by go_num, HNX⟩
            case measure => simp [intOf]; omega
          · have hg : M.nameB ch = true := by unfold M.nameB M.letB; simp only [Bool.or_eq_true, Bool.and_eq_true, decide_eq_true_eq]; omega
            have HNX := Lib.hid (HX.out hg)
            clear hg
            have g1 : decide ((97 : Int) ≤ (ch.toNat : Int)) = false := decide_eq_false (by omega)
            have g3 : decide ((48 : Int) ≤ (ch.toNat : Int)) = true := decide_eq_true (by omega)
            have g4 : decide ((ch.toNat : Int) ≤ 57) = true := decide_eq_true (by omega)
            go_wp2_with fail
            go_round
            case rel => exact ⟨k + 1, by omega, by go_num, HNX⟩
            case measure => simp [intOf]; omega
          · have hg : M.nameB ch = false := by cases hb : M.nameB ch with | false => rfl | true => (unfold M.nameB M.letB at hb; simp only [Bool.or_eq_true, Bool.and_eq_true, decide_eq_true_eq] at hb; omega)
            have HBAD := Lib.hid (HY.out hg)
            clear hg
            have g1 : decide ((97 : Int) ≤ (ch.toNat : Int)) = false := decide_eq_false (by omega)
            have g3 : decide ((48 : Int) ≤ (ch.toNat : Int)) = false := decide_eq_false (by omega)
            go_wp2_with fail
            go_ret
            exact ⟨ret_bool HBAD.out.symm, rfl⟩
          · have hg : M.nameB ch = false := by cases hb : M.nameB ch with | false => rfl | true => (unfold M.nameB M.letB at hb; simp only [Bool.or_eq_true, Bool.and_eq_true, decide_eq_true_eq] at hb; omega)
            have HBAD := Lib.hid (HY.out hg)
            clear hg
            have g1 : decide ((97 : Int) ≤ (ch.toNat : Int)) = false := decide_eq_false (by omega)
            have g3 : decide ((48 : Int) ≤ (ch.toNat : Int)) = true := decide_eq_true (by omega)
            have g4 : decide ((ch.toNat : Int) ≤ 57) = false := decide_eq_false (by omega)
            go_wp2_with fail
            go_ret
            exact ⟨ret_bool HBAD.out.symm, rfl⟩
          · have hg : M.nameB ch = false := by cases hb : M.nameB ch with | false => rfl | true => (unfold M.nameB M.letB at hb; simp only [Bool.or_eq_true, Bool.and_eq_true, decide_eq_true_eq] at hb; omega)
            have HBAD := Lib.hid (HY.out hg)
            clear hg
            have g1 : decide ((97 : Int) ≤ (ch.toNat : Int)) = true := decide_eq_true (by omega)
            have g2 : decide ((ch.toNat : Int) ≤ 122) = false := decide_eq_false (by omega)
            have g3 : decide ((48 : Int) ≤ (ch.toNat : Int)) = true := decide_eq_true (by omega)
            have g4 : decide ((ch.toNat : Int) ≤ 57) = false := decide_eq_false (by omega)
            go_wp2_with fail
            go_ret
            exact ⟨ret_bool HBAD.out.symm, rfl⟩
        · obtain rfl : k = s.size := by omega
          have m1 : decide ((s.size : Int) < (s.size : Int)) = false := decide_eq_false (by omega)
          have HYES := Lib.hid (HQ.out HL.out (fun j hj => HA.out j hj hj))
          go_wp2_with fail
          go_ret
          exact ⟨ret_bool HYES.out.symm, rfl⟩
    · have hf : M.isNameB s.data.toList = false := by
        cases hb : M.isNameB s.data.toList
        · rfl
        · exact absurd (HP.out hb).1 hl
      have HFF := Lib.hid hf
      have hl2 : c0.toNat < 97 ∨ 122 < c0.toNat := by
        unfold M.letB at hl
        simp only [Bool.and_eq_true, decide_eq_true_eq] at hl
        omega
      clear hl hf
      rcases hl2 with q | q
      · have e1 : decide ((c0.toNat : Int) < 97) = true := decide_eq_true (by omega)
        go_enter Try.func49, Try.ntmps49
        go_wp2_with fail
        refine HC.out.mono ?_
        rintro e w1 ⟨rfl, rfl⟩
        go_wp2_with fail
        go_ret
        exact ⟨ret_bool HFF.out.symm, rfl⟩
      · have e1 : decide ((c0.toNat : Int) < 97) = false := decide_eq_false (by omega)
        have e2 : decide ((122 : Int) < (c0.toNat : Int)) = true := decide_eq_true (by omega)
        go_enter Try.func49, Try.ntmps49
        go_wp2_with fail
        refine HC.out.mono ?_
        rintro e w1 ⟨rfl, rfl⟩
        go_wp2_with fail
        go_ret
        exact ⟨ret_bool HFF.out.symm, rfl⟩
  · have hf : M.isNameB s.data.toList = false := by
      cases hb : M.isNameB s.data.toList
      · rfl
      · unfold M.isNameB at hb
        rw [hls] at hb
        simp only [Bool.and_eq_true, decide_eq_true_eq] at hb
        exact absurd hb.1.1 h1
    have hcall := in_any s.size 1 12 w
    have hd : (decide ((1 : Int) ≤ (s.size : Int)) && decide ((s.size : Int) ≤ 12)) = false := by
      cases hb : (decide ((1 : Int) ≤ (s.size : Int)) && decide ((s.size : Int) ≤ 12))
      · rfl
      · simp only [Bool.and_eq_true, decide_eq_true_eq] at hb; omega
    rw [hd] at hcall
    have HC := Lib.hid hcall
    have HFF := Lib.hid hf
    clear hcall hd hf h1
    go_enter Try.func49, Try.ntmps49
    go_wp2_with fail
    refine HC.out.mono ?_
    rintro e w1 ⟨rfl, rfl⟩
    go_wp2_with fail
    go_ret
    exact ⟨ret_bool HFF.out.symm, rfl⟩

set_option maxHeartbeats 1000000 in
set_option maxRecDepth 100000 in
theorem refFind_any (a : Option Addr) (c : Nat) (l : List ByteArray) (s : ByteArray) (w : World) (hl : l.length ≤ 1000000) (ho : StrSl w a l) :
    Calls Try.prog 50 #[.slice a l.length c, .string s] w fun e w' => e = .returned (.int .i64 (M.findI l s)) ∧ w = w' := by
  have HO := Lib.hid ho
  clear ho
  go_enter Try.func50, Try.ntmps50
  go_wp2_with fail
  go_loop [5] (fun i => ∃ k : Nat, k ≤ l.length ∧ i = .int .i64 k ∧ Hid (∀ j, (hj : j < l.length) → j < k → l[j] ≠ s)) (fun i => l.length - (intOf i).toNat)
  case atStart => exact ⟨0, by omega, rfl, Lib.hid (fun j _ hj => by omega)⟩
  case round =>
    obtain ⟨k, hk, rfl, HA⟩ := hrel
    by_cases hkl : k < l.length
    · obtain ⟨b, off, rfl, ha⟩ := HO.out.at hkl
      have c0 := ha.at_ k hkl
      have hyes := fun e => M.findI_stop l s k hkl HA.out e
      have hnx : l[k] ≠ s → ∀ j, (hj : j < l.length) → j < k + 1 → l[j] ≠ s := fun hn j hj hjk => by
        rcases Nat.lt_succ_iff_lt_or_eq.1 hjk with h | rfl
        · exact HA.out j hj h
        · exact hn
      obtain ⟨x, hx⟩ : ∃ x, l[k] = x := ⟨_, rfl⟩
      rw [hx] at c0 hyes hnx
      have HYES := Lib.hid hyes
      have HNX := Lib.hid hnx
      have n1 : (k : Int) < (l.length : Int) := by omega
      have n2 : (0 : Int) ≤ (k : Int) := by omega
      clear ha hx hyes hnx
      by_cases hxs : x = s
      · have k1 : (x.toList == s.toList) = true := by rw [hxs]; exact beq_self_eq_true _
        have HR := Lib.hid (HYES.out hxs)
        clear hxs
        go_wp2_with fail
        go_ret
        exact ⟨ret_int HR.out.symm, rfl⟩
      · have k1 : (x.toList == s.toList) = false := by
          rw [beq_eq_false_iff_ne]
          intro q
          rw [ByteArray.toList_eq, ByteArray.toList_eq] at q
          exact hxs (M.ba_ext q)
        have HN := Lib.hid (HNX.out hxs)
        clear hxs
        go_wp2_with fail
        go_round
        case rel => exact ⟨k + 1, by omega, by go_num, HN⟩
        case measure => simp [intOf]; omega
    · obtain rfl : k = l.length := by omega
      have m1 : decide ((l.length : Int) < (l.length : Int)) = false := decide_eq_false (by omega)
      have HR := Lib.hid (M.findI_all l s (fun j hj => HA.out j hj hj))
      go_wp2_with fail
      go_ret
      exact ⟨ret_int HR.out.symm, rfl⟩

set_option maxHeartbeats 1000000 in
set_option maxRecDepth 100000 in
theorem refWords_any (w : World) : Calls Try.prog 71 #[] w fun e w' => e = .returned (.slice (some ⟨w.heap.size, 0, none⟩) M.words.length 6) ∧ StrSl w' (some ⟨w.heap.size, 0, none⟩) M.words ∧ Below w.heap.size w w' := by
  go_enter Try.func71, Try.ntmps71
  go_wp2_with fail
  go_ret
  refine ⟨rfl, Or.inr ⟨w.heap.size, 0, rfl, by simp, fun i hi => ?_⟩, below1 _ _⟩
  rw [Nat.zero_add, World.cell?_alloc_at _ _ _ _ rfl]
  have hi6 : i < 6 := hi
  match i, hi6 with
  | 0, _ => rfl
  | 1, _ => rfl
  | 2, _ => rfl
  | 3, _ => rfl
  | 4, _ => rfl
  | 5, _ => rfl

set_option maxHeartbeats 1000000 in
set_option maxRecDepth 100000 in
theorem refIsTab_any (s : ByteArray) (w : World) (hs : s.size ≤ maxLen) : Calls Try.prog 48 #[.string s] w fun e w' => e = .returned (.bool (M.isTabB s)) ∧ Below w.heap.size w w' := by
  cases hn : M.isNameB s.data.toList with
  | false =>
    have hr : M.isTabB s = false := by unfold M.isTabB; rw [hn]; rfl
    have HN := Lib.hid hn
    have HR := Lib.hid hr
    clear hn hr
    go_enter Try.func48, Try.ntmps48
    go_wp2_with fail
    refine (refIsName_any s _ hs).mono ?_
    rintro e w1 ⟨rfl, rfl⟩
    rw [HN.out]
    go_wp2_with fail
    go_ret
    exact ⟨ret_bool HR.out.symm, Below.refl _ _⟩
  | true =>
    have hr : M.isTabB s = decide (M.findI M.words s < 0) := by unfold M.isTabB; rw [hn]; rfl
    have HN := Lib.hid hn
    have HR := Lib.hid hr
    clear hn hr
    go_enter Try.func48, Try.ntmps48
    go_wp2_with fail
    refine (refIsName_any s _ hs).mono ?_
    rintro e w1 ⟨rfl, rfl⟩
    rw [HN.out]
    go_wp2_with fail
    refine (refWords_any _).mono ?_
    rintro e w1 ⟨rfl, hst, hB⟩
    have HST := Lib.hid hst
    clear hst
    go_wp2_with fail
    refine (refFind_any _ 6 M.words s _ (by decide) HST.out).mono ?_
    rintro e w2 ⟨rfl, rfl⟩
    go_wp2_with fail
    go_ret
    exact ⟨ret_bool HR.out.symm, hB⟩
end Go.Proofs.Ythacjdlohmkpoaa

namespace Go.Proofs.Ythacjdlohmkpoaa
open Go.RowKit

set_option maxHeartbeats 1000000 in
set_option maxRecDepth 100000 in
theorem index_any (a : Option Addr) (c : Nat) (l : List ByteArray) (s : ByteArray) (w : World) (hl : l.length ≤ 1000000) (ho : StrSl w a l) :
    Calls Try.prog 109 #[.slice a l.length c, .string s] w fun e w' => e = .returned (.int .i64 (M.findI l s)) ∧ w = w' := by
  have HO := Lib.hid ho
  clear ho
  go_enter Try.func109, Try.ntmps109
  go_wp2_with fail
  go_loop [8] (fun i => ∃ k : Nat, k ≤ l.length ∧ i = .int .i64 k ∧ Hid (∀ j, (hj : j < l.length) → j < k → l[j] ≠ s)) (fun i => l.length - (intOf i).toNat)
  case atStart => exact ⟨0, by omega, rfl, Lib.hid (fun j _ hj => by omega)⟩
  case round =>
    obtain ⟨k, hk, rfl, HA⟩ := hrel
    by_cases hkl : k < l.length
    · obtain ⟨b, off, rfl, ha⟩ := HO.out.at hkl
      have c0 := ha.at_ k hkl
      have hyes := fun e => M.findI_stop l s k hkl HA.out e
      have hnx : l[k] ≠ s → ∀ j, (hj : j < l.length) → j < k + 1 → l[j] ≠ s := fun hn j hj hjk => by
        rcases Nat.lt_succ_iff_lt_or_eq.1 hjk with h | rfl
        · exact HA.out j hj h
        · exact hn
      obtain ⟨x, hx⟩ : ∃ x, l[k] = x := ⟨_, rfl⟩
      rw [hx] at c0 hyes hnx
      have HYES := Lib.hid hyes
      have HNX := Lib.hid hnx
      have n1 : (k : Int) < (l.length : Int) := by omega
      have n2 : (0 : Int) ≤ (k : Int) := by omega
      clear ha hx hyes hnx
      by_cases hxs : x = s
      · have k1 : (s.toList == x.toList) = true := by rw [hxs]; exact beq_self_eq_true _
        have HR := Lib.hid (HYES.out hxs)
        clear hxs
        go_wp2_with fail
        go_ret
        exact ⟨ret_int HR.out.symm, rfl⟩
      · have k1 : (s.toList == x.toList) = false := by
          rw [beq_eq_false_iff_ne]
          intro q
          rw [ByteArray.toList_eq, ByteArray.toList_eq] at q
          exact hxs (M.ba_ext q.symm)
        have HN := Lib.hid (HNX.out hxs)
        clear hxs
        go_wp2_with fail
        go_round
        case rel => exact ⟨k + 1, by omega, by go_num, HN⟩
        case measure => simp [intOf]; omega
    · obtain rfl : k = l.length := by omega
      have m1 : decide ((l.length : Int) < (l.length : Int)) = false := decide_eq_false (by omega)
      have HR := Lib.hid (M.findI_all l s (fun j hj => HA.out j hj hj))
      go_wp2_with fail
      go_ret
      exact ⟨ret_int HR.out.symm, rfl⟩

/-- Whether a text is one of some. -/
def M.hasB (l : List ByteArray) (s : ByteArray) : Bool := decide (M.findN l s < l.length)
theorem M.hasB_iff (l : List ByteArray) (s : ByteArray) : M.hasB l s = true ↔ s ∈ l := by unfold M.hasB; rw [decide_eq_true_eq]; exact M.findN_mem l s
theorem has_decide (l : List ByteArray) (s : ByteArray) : decide ((0 : Int) ≤ M.findI l s) = M.hasB l s := by
  unfold M.findI M.hasB
  rw [Bool.eq_iff_iff]
  simp only [decide_eq_true_eq]
  split
  · exact ⟨fun _ => by assumption, fun _ => by omega⟩
  · exact ⟨fun h => by omega, fun h => absurd h (by assumption)⟩

set_option maxHeartbeats 1000000 in
set_option maxRecDepth 100000 in
theorem contains_any (a : Option Addr) (c : Nat) (l : List ByteArray) (s : ByteArray) (w : World) (hl : l.length ≤ 1000000) (ho : StrSl w a l) :
    Calls Try.prog 97 #[.slice a l.length c, .string s] w fun e w' => e = .returned (.bool (M.hasB l s)) ∧ w = w' := by
  have HC := Lib.hid (index_any a c l s w hl ho)
  have HR := Lib.hid (has_decide l s)
  clear ho
  go_enter Try.func97, Try.ntmps97
  go_wp2_with fail
  refine HC.out.mono ?_
  rintro e w1 ⟨rfl, rfl⟩
  go_wp2_with fail
  go_ret
  exact ⟨ret_bool HR.out, rfl⟩

/-- The words with which texts of shapes begin, as the code keeps them. -/
def M.words8 : List ByteArray := [⟨#[]⟩, ⟨#[102, 108, 97, 103]⟩, ⟨#[109, 97, 120]⟩, ⟨#[115, 101, 116]⟩, ⟨#[111, 110, 99, 101]⟩, ⟨#[]⟩, ⟨#[109, 97, 112]⟩, ⟨#[112, 97, 105, 114]⟩]

set_option maxHeartbeats 1000000 in
set_option maxRecDepth 100000 in
theorem shapeWords_any (w : World) : Calls Try.prog 80 #[] w fun e w' => e = .returned (.slice (some ⟨w.heap.size, 0, none⟩) M.words8.length 8) ∧ StrSl w' (some ⟨w.heap.size, 0, none⟩) M.words8 ∧ Below w.heap.size w w' := by
  go_enter Try.func80, Try.ntmps80
  go_wp2_with fail
  go_ret
  refine ⟨rfl, Or.inr ⟨w.heap.size, 0, rfl, by simp, fun i hi => ?_⟩, below1 _ _⟩
  rw [Nat.zero_add, World.cell?_alloc_at _ _ _ _ rfl]
  have hi6 : i < 8 := hi
  match i, hi6 with
  | 0, _ => rfl
  | 1, _ => rfl
  | 2, _ => rfl
  | 3, _ => rfl
  | 4, _ => rfl
  | 5, _ => rfl
  | 6, _ => rfl
  | 7, _ => rfl

theorem words8_has (s : ByteArray) (h : s.size ≠ 0) : s ∈ M.words8 ↔ s ∈ M.words := by
  unfold M.words8 M.words
  simp only [List.mem_cons, List.not_mem_nil, or_false]
  have h0 : s ≠ ⟨#[]⟩ := fun e => h (by rw [e]; rfl)
  constructor
  · rintro (e | e | e | e | e | e | e | e)
    · exact absurd e h0
    · exact Or.inl e
    · exact Or.inr (Or.inl e)
    · exact Or.inr (Or.inr (Or.inl e))
    · exact Or.inr (Or.inr (Or.inr (Or.inl e)))
    · exact absurd e h0
    · exact Or.inr (Or.inr (Or.inr (Or.inr (Or.inl e))))
    · exact Or.inr (Or.inr (Or.inr (Or.inr (Or.inr e))))
  · rintro (e | e | e | e | e | e)
    · exact Or.inr (Or.inl e)
    · exact Or.inr (Or.inr (Or.inl e))
    · exact Or.inr (Or.inr (Or.inr (Or.inl e)))
    · exact Or.inr (Or.inr (Or.inr (Or.inr (Or.inl e))))
    · exact Or.inr (Or.inr (Or.inr (Or.inr (Or.inr (Or.inr (Or.inl e))))))
    · exact Or.inr (Or.inr (Or.inr (Or.inr (Or.inr (Or.inr (Or.inr e))))))

set_option maxHeartbeats 2000000 in
set_option maxRecDepth 100000 in
theorem isName_any (s : ByteArray) (w : World) : Calls Try.prog 82 #[.string s] w fun e w' => e = .returned (.bool (M.isNameB s.data.toList)) ∧ Below w.heap.size w w' := by
  have hls := M.size_list s
  by_cases h0 : s.size = 0
  · have h1 : s.toList = [] := by rw [ByteArray.toList_eq s]; exact List.eq_nil_of_length_eq_zero (by omega)
    have h2 : (!s.toList.isEmpty) = false := by rw [h1]; rfl
    have hr : M.isNameB s.data.toList = false := by unfold M.isNameB; rw [hls, h0]; rfl
    have HR := Lib.hid hr
    clear hr h1
    go_enter Try.func82, Try.ntmps82
    go_wp2_with fail
    go_ret
    exact ⟨ret_bool HR.out.symm, Below.refl _ _⟩
  · have hne : s.data.toList ≠ [] := fun e => h0 (by rw [← hls, e]; rfl)
    have h1 : s.toList.isEmpty = false := by rw [ByteArray.toList_eq s, List.isEmpty_eq_false_iff]; exact hne
    have h2 : (!s.toList.isEmpty) = true := by rw [h1]; rfl
    clear h1 hne
    by_cases h12 : s.size ≤ 12
    · have d1 : decide ((s.size : Int) ≤ 12) = true := decide_eq_true (by omega)
      have hsz : 0 < s.size := by omega
      have z0 : (0 : Int) < (s.size : Int) := by omega
      have hg := getD_0 s hsz
      have hrr : M.isNameB s.data.toList = (M.letB s[0] && s.data.toList.all M.nameB) := by
        unfold M.isNameB
        rw [hls, hg, decide_eq_true (show 1 ≤ s.size by omega), decide_eq_true h12]
        simp only [Bool.true_and]
      obtain ⟨c0, hc0⟩ : ∃ c, s[0] = c := ⟨_, rfl⟩
      rw [hc0] at hrr
      have hc0' : s[0]'hsz = c0 := hc0
      have hw : IntKind.i32.wrap (c0.toNat : Int) = (c0.toNat : Int) := by
        have := c0.toNat_lt
        have e : c0.toNat < 256 := this
        unfold IntKind.wrap
        simp [IntKind.bits, IntKind.signed]
        omega
      have hL := isLetter_any (c0.toNat : Int) w
      have hlet : (decide ((97 : Int) ≤ (c0.toNat : Int)) && decide ((c0.toNat : Int) ≤ 122)) = M.letB c0 := by
        unfold M.letB; rw [Bool.eq_iff_iff]; simp only [Bool.and_eq_true, decide_eq_true_eq]; omega
      rw [hlet] at hL
      have HE := Lib.hid (nameEnd_any s w)
      cases hl : M.letB c0 with
      | false =>
        rw [hl] at hL hrr
        have HL := Lib.hid hL
        have HR := Lib.hid hrr
        clear hL hrr hlet hl hc0 hg
        go_enter Try.func82, Try.ntmps82
        go_wp2_with fail
        refine HL.out.mono ?_
        rintro e w1 ⟨rfl, rfl⟩
        go_wp2_with fail
        go_ret
        exact ⟨ret_bool (by rw [HR.out]; rfl), Below.refl _ _⟩
      | true =>
        rw [hl] at hL hrr
        have hend : decide ((M.endN s.data.toList : Int) = (s.size : Int)) = s.data.toList.all M.nameB := by
          rcases M.idx_end s with ⟨_, q1, q2⟩ | ⟨_, q1, q2⟩
          · rw [q1, q2]; exact decide_eq_true rfl
          · rw [q2]; exact decide_eq_false (by omega)
        have hend2 : ((M.endN s.data.toList : Int) == (s.size : Int)) = s.data.toList.all M.nameB := by rw [← hend]; rfl
        have HL := Lib.hid hL
        have HR := Lib.hid hrr
        have HQ := Lib.hid hend2
        clear hL hrr hlet hl hc0 hg hend hend2
        go_enter Try.func82, Try.ntmps82
        go_wp2_with fail
        refine HL.out.mono ?_
        rintro e w1 ⟨rfl, rfl⟩
        go_wp2_with fail
        refine HE.out.mono ?_
        rintro e w1 ⟨rfl, hB⟩
        go_wp2_with fail
        go_ret
        exact ⟨ret_bool (by rw [HR.out, ← HQ.out]; rfl), hB⟩
    · have d1 : decide ((s.size : Int) ≤ 12) = false := decide_eq_false (by omega)
      have hr : M.isNameB s.data.toList = false := by unfold M.isNameB; rw [hls, decide_eq_false h12]; simp
      have HR := Lib.hid hr
      clear hr
      go_enter Try.func82, Try.ntmps82
      go_wp2_with fail
      go_ret
      exact ⟨ret_bool HR.out.symm, Below.refl _ _⟩

set_option maxHeartbeats 2000000 in
set_option maxRecDepth 100000 in
theorem isTableName_any (s : ByteArray) (w : World) : Calls Try.prog 78 #[.string s] w fun e w' => e = .returned (.bool (M.isTabB s)) ∧ Below w.heap.size w w' := by
  have hN := isName_any s w
  cases hn : M.isNameB s.data.toList with
  | false =>
    have hr : M.isTabB s = false := by unfold M.isTabB; rw [hn]; rfl
    rw [hn] at hN
    have HN := Lib.hid hN
    have HR := Lib.hid hr
    clear hn hr hN
    go_enter Try.func78, Try.ntmps78
    go_wp2_with fail
    refine HN.out.mono ?_
    rintro e w1 ⟨rfl, hB⟩
    go_wp2_with fail
    go_ret
    exact ⟨ret_bool HR.out.symm, hB⟩
  | true =>
    have hr : M.isTabB s = !M.hasB M.words8 s := by
      have h0 : s.size ≠ 0 := fun e => by unfold M.isNameB at hn; rw [M.size_list, e] at hn; simp at hn
      unfold M.isTabB
      rw [hn, Bool.true_and, Bool.eq_iff_iff]
      simp only [decide_eq_true_eq, Bool.not_eq_true']
      rw [M.findI_neg M.words s, ← words8_has s h0, ← M.hasB_iff]
      simp
    rw [hn] at hN
    have HN := Lib.hid hN
    have HR := Lib.hid hr
    clear hn hr hN
    go_enter Try.func78, Try.ntmps78
    go_wp2_with fail
    refine HN.out.mono ?_
    rintro e w1 ⟨rfl, hB⟩
    go_wp2_with fail
    refine (shapeWords_any _).mono ?_
    rintro e w2 ⟨rfl, hst, hB2⟩
    have HST := Lib.hid hst
    clear hst
    go_wp2_with fail
    refine (contains_any _ 8 M.words8 s _ (by decide) HST.out).mono ?_
    rintro e w3 ⟨rfl, rfl⟩
    go_wp2_with fail
    go_ret
    exact ⟨ret_bool HR.out.symm, below2 hB hB2⟩
end Go.Proofs.Ythacjdlohmkpoaa
