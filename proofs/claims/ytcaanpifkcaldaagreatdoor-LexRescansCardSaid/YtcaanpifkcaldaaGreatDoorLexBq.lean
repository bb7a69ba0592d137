/- DERIVED. Contract of the document's own Rescan, where it comes to a change. -/
import Derived.Test.YtcaanpifkcaldaaGreatDoorLexBp
import Derived.Deep.DeepCutAuto
import Derived.Deep.CutRange
import Derived.BigRegion
namespace Go.Proofs.YtcaanpifkcaldaaGreatDoor
open Go.RowKit Go.WideMaps Go.Maps Go.Shelf

namespace M
/-- Whether the k-th of the first tokens stays. -/
def hdB (x : Ed) (l m : List Lx) (k : Nat) : Bool := match l[k]? with
  | some t => headP x m k t
  | none => false
theorem hdB_stop (x : Ed) (l m : List Lx) (k : Nat) (hk : k ≤ l.length) (hb : ∀ j, j < k → hdB x l m j = true) (hs : hdB x l m k = false) : head x l m = k := by
  unfold head
  have hb' : ∀ j (h : j < k), headP x m (0 + j) (l[j]'(by omega)) = true := by
    intro j h
    have := hb j h
    unfold hdB at this
    rw [List.getElem?_eq_getElem (by omega)] at this
    rw [Nat.zero_add]; exact this
  rcases Nat.eq_or_lt_of_le hk with e | e
  · subst e
    rw [leadI_all (headP x m) l 0 (fun j h => hb' j h), Nat.zero_add]
  · have hs' : headP x m (0 + k) l[k] = false := by
      unfold hdB at hs
      rw [List.getElem?_eq_getElem e] at hs
      rw [Nat.zero_add]; exact hs
    rw [leadI_stop (headP x m) l 0 k e hb' hs', Nat.zero_add]
theorem hdB_eq (x : Ed) (l m : List Lx) (k : Nat) (h1 : k < l.length) (h2 : k < m.length) : hdB x l m k = (decide (l[k].pos < x.from_) && eqLx l[k] m[k]) := by
  unfold hdB headP
  rw [List.getElem?_eq_getElem h1]
  dsimp only
  rw [List.getElem?_eq_getElem h2]
  dsimp only
  have e : eqLx m[k] l[k] = eqLx l[k] m[k] := by
    rw [Bool.eq_iff_iff, eqLx_iff, eqLx_iff]; exact eq_comm
  rw [e]
theorem hdB_no (x : Ed) (l m : List Lx) (k : Nat) (h : ¬ (k < l.length ∧ k < m.length)) : hdB x l m k = false := by
  unfold hdB headP
  by_cases h1 : k < l.length
  · rw [List.getElem?_eq_getElem h1, List.getElem?_eq_none (by omega)]; simp
  · rw [List.getElem?_eq_none (by omega)]
/-- Whether the k-th of the last tokens stays, but for its place. -/
def tlB (x : Ed) (d : Int) (l m : List Lx) (k : Nat) : Bool := match l.reverse[k]? with
  | some t => tailP x d m.reverse k t
  | none => false
theorem tlB_stop (x : Ed) (d : Int) (l m : List Lx) (k : Nat) (hk : k ≤ l.length) (hb : ∀ j, j < k → tlB x d l m j = true) (hs : tlB x d l m k = false) : tail x d l m = k := by
  unfold tail
  have hl : l.reverse.length = l.length := List.length_reverse
  have hb' : ∀ j (h : j < k), tailP x d m.reverse (0 + j) (l.reverse[j]'(by omega)) = true := by
    intro j h
    have := hb j h
    unfold tlB at this
    rw [List.getElem?_eq_getElem (by omega)] at this
    rw [Nat.zero_add]; exact this
  rcases Nat.eq_or_lt_of_le hk with e | e
  · rw [leadI_all (tailP x d m.reverse) l.reverse 0 (fun j h => hb' j (by omega)), Nat.zero_add]; omega
  · have hs' : tailP x d m.reverse (0 + k) (l.reverse[k]'(by omega)) = false := by
      unfold tlB at hs
      rw [List.getElem?_eq_getElem (by omega)] at hs
      rw [Nat.zero_add]; exact hs
    rw [leadI_stop (tailP x d m.reverse) l.reverse 0 k (by omega) hb' hs', Nat.zero_add]
theorem tlB_no (x : Ed) (d : Int) (l m : List Lx) (k : Nat) (h : ¬ (k < l.length ∧ k < m.length)) : tlB x d l m k = false := by
  unfold tlB tailP
  by_cases h1 : k < l.length
  · rw [List.getElem?_eq_getElem (by rw [List.length_reverse]; exact h1)]
    dsimp only
    rw [List.getElem?_eq_none (by rw [List.length_reverse]; omega)]; simp
  · rw [List.getElem?_eq_none (by rw [List.length_reverse]; omega)]
theorem tlB_eq (x : Ed) (d : Int) (l m : List Lx) (k : Nat) (h1 : k < l.length) (h2 : k < m.length) : tlB x d l m k = (decide (x.to_ ≤ (l[l.length - 1 - k]).pos) && eqLx (m[m.length - 1 - k]) (moved (l[l.length - 1 - k]) d)) := by
  unfold tlB tailP
  rw [List.getElem?_eq_getElem (by rw [List.length_reverse]; exact h1)]
  dsimp only
  rw [List.getElem?_eq_getElem (by rw [List.length_reverse]; exact h2)]
  dsimp only
  rw [List.getElem_reverse, List.getElem_reverse]
end M
theorem LxAt.grown {W W' : World} {b off K : Nat} {l : List M.Lx} (h : LxAt W b off l) (hg : W.grownBy W' (some K)) (hne : b ≠ K) : LxAt W' b off l :=
  ⟨Nat.lt_of_lt_of_le h.lt hg.size, fun i hi => hg.cell (h.c0 i hi) (by simpa using hne), fun i hi => hg.cell (h.c1 i hi) (by simpa using hne), fun i hi => hg.cell (h.c2 i hi) (by simpa using hne)⟩
theorem LxSl.grown {W W' : World} {a : Option Addr} {K : Nat} {l : List M.Lx} (h : LxSl W a l) (hg : W.grownBy W' (some K)) (hK : K = W.heap.size ∨ ∀ ad, a = some ad → ad.block ≠ K) : LxSl W' a l := by
  rcases h with h | ⟨b, off, rfl, h⟩
  · exact Or.inl h
  · refine Or.inr ⟨b, off, rfl, h.grown hg ?_⟩
    rcases hK with hK | hK
    · have := h.lt; omega
    · exact hK _ rfl
theorem LxSl.drewN {W : World} {a : Option Addr} {l : List M.Lx} (h : LxSl W a l) (n : Nat) : LxSl (W.drewN n) a l := by
  rcases h with h | ⟨b, off, e, h⟩
  · exact Or.inl h
  · exact Or.inr ⟨b, off, e, h.lt, h.c0, h.c1, h.c2⟩
theorem LxSl.drew {W : World} {a : Option Addr} {l : List M.Lx} (h : LxSl W a l) : LxSl W.drew a l := by
  rcases h with h | ⟨b, off, e, h⟩
  · exact Or.inl h
  · exact Or.inr ⟨b, off, e, h.lt, h.c0, h.c1, h.c2⟩
theorem LxSl.setOther {W : World} {a : Option Addr} {l : List M.Lx} (h : LxSl W a l) (n i : Nat) (v : Value) (hne : ∀ ad, a = some ad → ad.block ≠ n) : LxSl (W.setCell ⟨n, i, none⟩ v) a l := by
  rcases h with h | ⟨b, off, rfl, h⟩
  · exact Or.inl h
  · have hb : b ≠ n := hne _ rfl
    have e : ∀ o, (W.setCell ⟨n, i, none⟩ v).cell? ⟨b, o, none⟩ = W.cell? ⟨b, o, none⟩ := fun o => World.cell?_setCell_other _ _ _ _ (fun e => hb (by cases e; rfl))
    exact Or.inr ⟨b, off, rfl, by simpa using h.lt, fun j hj => by rw [e]; exact h.c0 j hj, fun j hj => by rw [e]; exact h.c1 j hj, fun j hj => by rw [e]; exact h.c2 j hj⟩
def cellN (W : World) (a : Addr) : Nat := match W.cell? a with
  | some v => (intOf v).toNat
  | none => 0
/-- The cells of the change that is being made, in its box. -/
def ChAt (W : World) (K : Nat) (h t : Nat) : Prop :=
  W.cell? ⟨K, 0, none⟩ = some (.int .i64 h) ∧ W.cell? ⟨K, 1, none⟩ = some (.int .i64 t) ∧ W.cell? ⟨K, 2, none⟩ = some (.slice none 0 0) ∧ W.frozen? ⟨K, 0, none⟩ = false ∧ W.frozen? ⟨K, 1, none⟩ = false ∧ W.frozen? ⟨K, 2, none⟩ = false
theorem chAt_new (W : World) (t : TypeId) : ChAt (W.alloc (.cells #[.int .i64 0, .int .i64 0, .slice none 0 0] t)) W.heap.size 0 0 :=
  ⟨by rw [World.cell?_alloc_new]; rfl, by rw [World.cell?_alloc_new]; rfl, by rw [World.cell?_alloc_new]; rfl, World.frozen?_alloc_new _ _ _ _, World.frozen?_alloc_new _ _ _ _, World.frozen?_alloc_new _ _ _ _⟩
theorem ChAt.drewN {W : World} {K h t : Nat} (c : ChAt W K h t) (n : Nat) : ChAt (W.drewN n) K h t := c
theorem ChAt.set0 {W : World} {K h t : Nat} (c : ChAt W K h t) (h' : Nat) : ChAt (W.setCell ⟨K, 0, none⟩ (.int .i64 h')) K h' t := by
  obtain ⟨a, b, d, e, f, g⟩ := c
  exact ⟨set_same _ _ _ _ _ a, by rw [set_other _ _ _ _ _ (by decide)]; exact b, by rw [set_other _ _ _ _ _ (by decide)]; exact d, by rw [World.frozen?_setCell]; exact e, by rw [World.frozen?_setCell]; exact f, by rw [World.frozen?_setCell]; exact g⟩
theorem ChAt.set0' {W : World} {K h t : Nat} (c : ChAt W K h t) (h' : Nat) (v : Int) (hv : v = h') : ChAt (W.setCell ⟨K, 0, none⟩ (.int .i64 v)) K h' t := by
  subst hv; exact c.set0 h'
theorem ChAt.cell0 {W : World} {K h t : Nat} (c : ChAt W K h t) : cellN W ⟨K, 0, none⟩ = h := by unfold cellN; rw [c.1]; rfl
theorem ChAt.cell1 {W : World} {K h t : Nat} (c : ChAt W K h t) : cellN W ⟨K, 1, none⟩ = t := by unfold cellN; rw [c.2.1]; rfl
theorem ChAt.set1 {W : World} {K h t : Nat} (c : ChAt W K h t) (t' : Nat) : ChAt (W.setCell ⟨K, 1, none⟩ (.int .i64 t')) K h t' := by
  obtain ⟨a, b, d, e, f, g⟩ := c
  exact ⟨by rw [set_other _ _ _ _ _ (by decide)]; exact a, set_same _ _ _ _ _ b, by rw [set_other _ _ _ _ _ (by decide)]; exact d, by rw [World.frozen?_setCell]; exact e, by rw [World.frozen?_setCell]; exact f, by rw [World.frozen?_setCell]; exact g⟩
theorem ChAt.set1' {W : World} {K h t : Nat} (c : ChAt W K h t) (t' : Nat) (v : Int) (hv : v = t') : ChAt (W.setCell ⟨K, 1, none⟩ (.int .i64 v)) K h t' := by
  subst hv; exact c.set1 t'
theorem ChAt.alloc {W : World} {K h t : Nat} (c : ChAt W K h t) (hK : K < W.heap.size) (o : Obj) : ChAt (W.alloc o) K h t := by
  obtain ⟨a, b, d, e, f, g⟩ := c
  have k1 : ∀ i, (W.alloc o).cell? ⟨K, i, none⟩ = W.cell? ⟨K, i, none⟩ := fun i => World.cell?_alloc_lt _ _ _ hK
  have k2 : ∀ i, (W.alloc o).frozen? ⟨K, i, none⟩ = W.frozen? ⟨K, i, none⟩ := fun i => World.frozen?_of_block (w := W) (Below.heap_alloc _ _ _ hK)
  exact ⟨by rw [k1]; exact a, by rw [k1]; exact b, by rw [k1]; exact d, by rw [k2]; exact e, by rw [k2]; exact f, by rw [k2]; exact g⟩

/-- Two tokens in boxes of their own. -/
def TwoBox (w4 wq : World) (K : Nat) (y z : M.Lx) (p q : Value) (W : World) : Prop :=
  ∃ A B : Nat, p = .pointer (some ⟨A, 0, none⟩) ∧ q = .pointer (some ⟨B, 0, none⟩) ∧ W.cell? ⟨A, 0, none⟩ = some (.int .u8 y.kind) ∧ W.cell? ⟨A, 1, none⟩ = some (.string y.text) ∧ W.cell? ⟨A, 2, none⟩ = some (.int .i64 y.pos) ∧
    W.cell? ⟨B, 0, none⟩ = some (.int .u8 z.kind) ∧ W.cell? ⟨B, 1, none⟩ = some (.string z.text) ∧ W.cell? ⟨B, 2, none⟩ = some (.int .i64 z.pos) ∧ w4.grownBy W (some K) ∧ Below wq.heap.size wq W ∧ (A ≠ K ∧ B ≠ K)

theorem ChAt.below {W W' : World} {K h t : Nat} (c : ChAt W K h t) (hK : K < W.heap.size) (hB : Below W.heap.size W W') : ChAt W' K h t := by
  obtain ⟨a, b, d, e, f, g⟩ := c
  exact ⟨cell_below a hB, cell_below b hB, cell_below d hB, ((bcell hB).2 K 0 hK).trans e, ((bcell hB).2 K 1 hK).trans f, ((bcell hB).2 K 2 hK).trans g⟩
theorem two_cells (W : World) (y z : M.Lx) (t : TypeId) : ∀ V, V = ((W.alloc (.cells #[.int .u8 y.kind, .string y.text, .int .i64 y.pos] t)).alloc (.cells #[.int .u8 z.kind, .string z.text, .int .i64 z.pos] t)).drew →
    V.cell? ⟨W.heap.size, 0, none⟩ = some (.int .u8 y.kind) ∧ V.cell? ⟨W.heap.size, 1, none⟩ = some (.string y.text) ∧ V.cell? ⟨W.heap.size, 2, none⟩ = some (.int .i64 y.pos) ∧
    V.cell? ⟨W.heap.size + 1, 0, none⟩ = some (.int .u8 z.kind) ∧ V.cell? ⟨W.heap.size + 1, 1, none⟩ = some (.string z.text) ∧ V.cell? ⟨W.heap.size + 1, 2, none⟩ = some (.int .i64 z.pos) := by
  rintro V rfl
  have e1 : ∀ i, ((W.alloc (.cells #[.int .u8 y.kind, .string y.text, .int .i64 y.pos] t)).alloc (.cells #[.int .u8 z.kind, .string z.text, .int .i64 z.pos] t)).drew.cell? ⟨W.heap.size, i, none⟩ = (W.alloc (.cells #[.int .u8 y.kind, .string y.text, .int .i64 y.pos] t)).cell? ⟨W.heap.size, i, none⟩ := fun i => World.cell?_alloc_past _ _ _ (by simp)
  have e2 : ∀ i, ((W.alloc (.cells #[.int .u8 y.kind, .string y.text, .int .i64 y.pos] t)).alloc (.cells #[.int .u8 z.kind, .string z.text, .int .i64 z.pos] t)).drew.cell? ⟨W.heap.size + 1, i, none⟩ = ((W.alloc (.cells #[.int .u8 y.kind, .string y.text, .int .i64 y.pos] t)).alloc (.cells #[.int .u8 z.kind, .string z.text, .int .i64 z.pos] t)).cell? ⟨(W.alloc (.cells #[.int .u8 y.kind, .string y.text, .int .i64 y.pos] t)).heap.size, i, none⟩ := fun i => by rw [show (W.alloc (.cells #[.int .u8 y.kind, .string y.text, .int .i64 y.pos] t)).heap.size = W.heap.size + 1 from by simp]; rfl
  refine ⟨?_, ?_, ?_, ?_, ?_, ?_⟩
  · rw [e1, World.cell?_alloc_at _ _ _ _ rfl]; rfl
  · rw [e1, World.cell?_alloc_at _ _ _ _ rfl]; rfl
  · rw [e1, World.cell?_alloc_at _ _ _ _ rfl]; rfl
  · rw [e2, World.cell?_alloc_at _ _ _ _ rfl]; rfl
  · rw [e2, World.cell?_alloc_at _ _ _ _ rfl]; rfl
  · rw [e2, World.cell?_alloc_at _ _ _ _ rfl]; rfl
theorem two_grown (w4 W : World) (K : Nat) (o o' : Obj) (hg : w4.grownBy W (some K)) : w4.grownBy ((W.alloc o).alloc o').drew (some K) :=
  grown_drew (grown_trans (grown_trans hg (World.grownBy_alloc W o (some K))) (World.grownBy_alloc _ o' (some K)))
theorem twoBox_ab (w4 wq : World) (K : Nat) (y z : M.Lx) (t : TypeId) (hK : K < wq.heap.size) (hg : w4.grownBy wq (some K)) :
    TwoBox w4 wq K y z (.pointer (some ⟨wq.heap.size, 0, none⟩)) (.pointer (some ⟨wq.heap.size + 1, 0, none⟩)) ((wq.alloc (.cells #[.int .u8 y.kind, .string y.text, .int .i64 y.pos] t)).alloc (.cells #[.int .u8 z.kind, .string z.text, .int .i64 z.pos] t)).drew := by
  obtain ⟨a, b, c, d, e, f⟩ := two_cells wq y z t _ rfl
  exact ⟨_, _, rfl, rfl, a, b, c, d, e, f, two_grown _ _ _ _ _ hg, (belowA (below1 wq _) _).drew, by omega, by omega⟩
theorem twoBox_ba (w4 wq : World) (K : Nat) (y z : M.Lx) (t : TypeId) (hK : K < wq.heap.size) (hg : w4.grownBy wq (some K)) :
    TwoBox w4 wq K y z (.pointer (some ⟨wq.heap.size + 1, 0, none⟩)) (.pointer (some ⟨wq.heap.size, 0, none⟩)) ((wq.alloc (.cells #[.int .u8 z.kind, .string z.text, .int .i64 z.pos] t)).alloc (.cells #[.int .u8 y.kind, .string y.text, .int .i64 y.pos] t)).drew := by
  obtain ⟨a, b, c, d, e, f⟩ := two_cells wq z y t _ rfl
  exact ⟨_, _, rfl, rfl, d, e, f, a, b, c, two_grown _ _ _ _ _ hg, (belowA (below1 wq _) _).drew, by omega, by omega⟩

set_option maxHeartbeats 4000000 in
set_option maxRecDepth 100000 in
theorem refRescan_ok (s : ByteArray) (x : M.Ed) (w : World) (hp : x.put.size ≤ 1000000) (h : (M.scan s.data.toList).2.2 = 0) (hx : M.isEdit s x) (h2 : (M.scan (M.after s x).data.toList).2.2 = 0) :
    Calls Tryz.prog 20 #[.string s, edV x] w (RePost (M.rescan s x) w) := by
  have hsm : s.size ≤ 2500 := by rw [← M.size_list]; exact (M.scan_fine s.data.toList).2.2 h
  have hfl := M.scan_fine s.data.toList
  have hfm := M.scan_fine (M.after s x).data.toList
  have hht := M.head_tail s x hx (M.scan s.data.toList).1 (M.scan (M.after s x).data.toList).1
  have hres0 : M.rescan s x = (⟨M.head x (M.scan s.data.toList).1 (M.scan (M.after s x).data.toList).1, M.tail x (((M.after s x).size : Int) - (s.size : Int)) (M.scan s.data.toList).1 (M.scan (M.after s x).data.toList).1, (((M.scan (M.after s x).data.toList).1).take ((M.scan (M.after s x).data.toList).1.length - M.tail x (((M.after s x).size : Int) - (s.size : Int)) (M.scan s.data.toList).1 (M.scan (M.after s x).data.toList).1)).drop (M.head x (M.scan s.data.toList).1 (M.scan (M.after s x).data.toList).1)⟩, 0, 0) := by
    unfold M.rescan
    rw [if_neg (by rw [h]; simp), if_neg (by simpa using hx), if_neg (by rw [h2]; simp)]
  obtain ⟨l, p, c, hsc⟩ : ∃ l p c, M.scan s.data.toList = (l, p, c) := ⟨_, _, _, rfl⟩
  obtain ⟨m, p2, c2, hsc2⟩ : ∃ l p c, M.scan (M.after s x).data.toList = (l, p, c) := ⟨_, _, _, rfl⟩
  rw [hsc] at h hfl hht hres0
  rw [hsc2] at h2 hfm hht hres0
  dsimp only at h h2 hfl hfm hht hres0
  subst h h2
  have hau := M.after_size s x hx
  have hd : decide (M.isEdit s x) = true := decide_eq_true hx
  have hus : (M.after s x).size ≤ 1000000000 := by have := hx.1; have := hx.2.1; have := hx.2.2; omega
  have haf : M.after s x = s.extract 0 x.from_.toNat ++ x.put ++ s.extract x.to_.toNat s.size := rfl
  obtain ⟨u, hu⟩ : ∃ u, M.after s x = u := ⟨_, rfl⟩
  rw [hu] at haf hsc2 hus hht hres0
  have hll := hfl.2.1
  have hml := hfm.2.1
  have HRES := Lib.hid hres0
  have HHT := Lib.hid hht
  have HS := Lib.hid hsc
  have HS2 := Lib.hid hsc2
  have HD := Lib.hid hd
  have HU := Lib.hid haf
  have HFL := Lib.hid hfl.1
  have HFM := Lib.hid hfm.1
  obtain ⟨i1, i2, i3⟩ := hx
  obtain ⟨xf, xt, xp⟩ := x
  dsimp only at i1 i2 i3 hp HU
  obtain ⟨a, rfl⟩ := Int.eq_ofNat_of_zero_le i1
  obtain ⟨b, rfl⟩ := Int.eq_ofNat_of_zero_le (Int.le_trans i1 i2)
  have k1 : a ≤ s.size := by omega
  have k2 : b ≤ s.size := by omega
  have k3 : a ≤ b := by omega
  have k4 : ¬ 9223372036854775807 < a + xp.size := by omega
  have k5 : ¬ 9223372036854775807 < a + xp.size + (s.size - b) := by omega
  have hu2 : s.extract 0 a ++ xp ++ s.extract b s.size = u := by rw [HU.out]; simp
  have HU2 := Lib.hid hu2
  clear hres0 hsc hsc2 hd haf hu hau hu2 hfl hfm hht
  go_enter Tryz.func20, Tryz.ntmps20
  go_wp2_with fail
  refine (refScan_any s _ (by unfold maxLen; omega)).mono ?_
  rintro e w1 ⟨a1, c1, rfl, _, _, hl1, hB1⟩
  rw [HS.out] at hl1 ⊢
  obtain ⟨x0, x1, x2, hr, hBw, hz⟩ := re_cells (x := ⟨a, b, xp⟩) hB1
  have RB : ReBox w ⟨a, b, xp⟩ _ w1 := ⟨x0, x1, x2, hr, hBw, hz⟩
  have hlt : w.heap.size < w1.heap.size := by omega
  dsimp only at hl1
  have HL := Lib.hid hl1
  clear hB1 hr hBw hl1
  dsimp only at x0 x1 x2 ⊢
  rw [show (((0 : Nat) : Int)) = (0 : Int) from rfl]
  go_wp2_with fail
  refine (refIsEdit_any s ⟨a, b, xp⟩ _ (by unfold maxLen; omega)).mono ?_
  rintro e w2 ⟨rfl, hB2⟩
  rw [HD.out]
  replace RB := RB.below hB2
  replace HL := Lib.hid (HL.out.below hB2)
  have y0 := RB.c0
  have y1 := RB.c1
  have y2 := RB.c2
  have hz2 := RB.hz
  have hlt2 : w.heap.size < w2.heap.size := by omega
  clear hB2 x0 x1 x2 hlt hz
  dsimp only at y0 y1 y2
  go_wp2_with fail
  go_quiet (fail)
  go_wp2_with fail
  rw [HU2.out]
  refine (refScan_any u _ (by unfold maxLen; omega)).mono ?_
  rintro e w3 ⟨a3, c3, rfl, hle3, hn3, hl3, hB3⟩
  rw [HS2.out] at hl3 hle3 ⊢
  have RB3 := (RB.drewN nq).below hB3
  have hz3 := RB3.hz
  have HRB := Lib.hid RB3
  replace HL := Lib.hid ((HL.out.drewN nq).below hB3)
  dsimp only at hl3 hle3
  have HM := Lib.hid hl3
  clear hB3 RB RB3 y0 y1 y2 hz2 hlt2 hl3
  dsimp only
  rw [show (((0 : Nat) : Int)) = (0 : Int) from rfl]
  go_wp2_with fail
  obtain ⟨w4, hw4⟩ : ∃ w4, w3.alloc (.cells #[.int .i64 0, .int .i64 0, .slice none 0 0] 37) = w4 := ⟨_, rfl⟩
  have hch := chAt_new w3 37
  have RB4 := HRB.out.below (below1 w3 (.cells #[.int .i64 0, .int .i64 0, .slice none 0 0] 37))
  have hl4 := HL.out.below (below1 w3 (.cells #[.int .i64 0, .int .i64 0, .slice none 0 0] 37))
  have hm4 := HM.out.below (below1 w3 (.cells #[.int .i64 0, .int .i64 0, .slice none 0 0] 37))
  have hz4 : w4.heap.size = w3.heap.size + 1 := by rw [← hw4]; simp
  rw [hw4] at hch RB4 hl4 hm4 ⊢
  have hneL : ∀ ad, a1 = some ad → 0 < l.length → ad.block ≠ w3.heap.size := by
    intro ad e h0
    obtain ⟨b', off, e', ha⟩ := HL.out.at h0
    rw [e] at e'
    cases e'
    have := ha.lt
    show b' ≠ _
    omega
  have hneM : ∀ ad, a3 = some ad → 0 < m.length → ad.block ≠ w3.heap.size := by
    intro ad e h0
    obtain ⟨b', off, e', ha⟩ := HM.out.at h0
    rw [e] at e'
    cases e'
    have := ha.lt
    show b' ≠ _
    omega
  have HB4 := Lib.hid RB4
  have HCH := Lib.hid hch
  have HL4 := Lib.hid hl4
  have HM4 := Lib.hid hm4
  have HNL := Lib.hid hneL
  have HNM := Lib.hid hneM
  clear hw4 RB4 hch hl4 hm4 hneL hneM
  go_loopw [54] (fun _ wr => ∃ k : Nat, k ≤ l.length ∧ Hid (∀ j, j < k → M.hdB ⟨a, b, xp⟩ l m j = true) ∧ ChAt wr w3.heap.size k 0 ∧ w4.grownBy wr (some w3.heap.size)) (fun _ wr => l.length - cellN wr ⟨w3.heap.size, 0, none⟩)
  case atStart => exact ⟨0, by omega, Lib.hid (fun j hj => by omega), HCH.out, World.grownBy.refl _ _⟩
  case round =>
    rename World => wr
    obtain ⟨k, hk, HALL, hc, hg⟩ := hrel
    have hcn := hc.cell0
    have HCN := Lib.hid hcn
    clear hcn
    obtain ⟨g0, g1, g2, f0, f1, f2⟩ := hc
    go_upto_region 11 with fail
    go_cut [89] from 54 to 93 (fun c wx => c = .bool (M.hdB ⟨a, b, xp⟩ l m k) ∧ ∃ n, wx = wr.drewN n)
    case first =>
      have xb := hg.cell HB4.out.c0 (by have := HB4.out.hz; simp; omega)
      dsimp only at xb
      have hno := M.hdB_no ⟨a, b, xp⟩ l m k
      by_cases h1 : k < l.length
      · have hlw : LxSl wr a1 l := HL4.out.grown hg (Or.inr fun ad e => HNL.out ad e (by omega))
        obtain ⟨bl, ol, rfl, hal⟩ := hlw.at h1
        have v0 := hal.c0 k h1
        have v1 := hal.c1 k h1
        have v2 := hal.c2 k h1
        have d1 : decide (k < l.length) = true := decide_eq_true h1
        have n1 : (k : Int) < (l.length : Int) := by omega
        have n2 : (0 : Int) ≤ (k : Int) := by omega
        by_cases h2 : k < m.length
        · have hmw : LxSl wr a3 m := HM4.out.grown hg (Or.inr fun ad e => HNM.out ad e (by omega))
          obtain ⟨bm, om, rfl, ham⟩ := hmw.at h2
          have z0 := ham.c0 k h2
          have z1 := ham.c1 k h2
          have z2 := ham.c2 k h2
          have d2 : decide (k < m.length) = true := decide_eq_true h2
          have n3 : (k : Int) < (m.length : Int) := by omega
          have heq := M.hdB_eq ⟨a, b, xp⟩ l m k h1 h2
          obtain ⟨y, hy⟩ : ∃ y, l[k] = y := ⟨_, rfl⟩
          obtain ⟨z, hz⟩ : ∃ z, m[k] = z := ⟨_, rfl⟩
          rw [hy] at v0 v1 v2 heq
          rw [hz] at z0 z1 z2 heq
          dsimp only at heq
          have hq := fun W => eqLx_run y z W
          have HEQ := Lib.hid heq
          clear hlw hmw hal ham hy hz heq hno
          by_cases h3 : y.pos < (a : Int)
          · have d3 : decide (y.pos < (a : Int)) = true := decide_eq_true h3
            rw [d3, Bool.true_and] at HEQ
            cases he : M.eqLx y z
            · rw [he] at hq HEQ
              clear he
              go_quiet (fail)
              go_wp2
              go_meet
              exact ⟨by rw [HEQ.out], _, rfl⟩
            · rw [he] at hq HEQ
              clear he
              go_quiet (fail)
              go_wp2
              go_meet
              exact ⟨by rw [HEQ.out], _, rfl⟩
          · have d3 : decide (y.pos < (a : Int)) = false := decide_eq_false h3
            rw [d3, Bool.false_and] at HEQ
            go_quiet (fail)
            go_wp2
            go_meet
            exact ⟨by rw [HEQ.out], _, rfl⟩
        · have d2 : decide (k < m.length) = false := decide_eq_false h2
          have HNO := Lib.hid (hno (fun q => h2 q.2))
          clear hlw hal hno
          go_quiet (fail)
          go_wp2
          go_meet
          exact ⟨by rw [HNO.out], _, rfl⟩
      · have d1 : decide (k < l.length) = false := decide_eq_false h1
        have HNO := Lib.hid (hno (fun q => h1 q.1))
        clear hno
        go_quiet (fail)
        go_wp2
        go_meet
        exact ⟨by rw [HNO.out], _, rfl⟩
    case rest =>
      obtain ⟨rfl, n, rfl⟩ := hcut
      obtain ⟨V, hV⟩ : ∃ V, wr.drewN n = V := ⟨_, rfl⟩
      have hcV : ChAt V w3.heap.size k 0 := by rw [← hV]; exact ChAt.drewN (W := wr) ⟨g0, g1, g2, f0, f1, f2⟩ n
      have hgV : w4.grownBy V (some w3.heap.size) := by rw [← hV]; exact grown_drewN hg n
      have hzV : w3.heap.size < V.heap.size := by have := hgV.size; omega
      rw [hV]
      have hkl : M.hdB ⟨a, b, xp⟩ l m k = true → k < l.length := by
        intro q
        rcases Nat.lt_or_ge k l.length with h | h
        · exact h
        · rw [M.hdB_no _ _ _ _ (by omega)] at q; cases q
      have hnx : M.hdB ⟨a, b, xp⟩ l m k = true → ∀ j, j < k + 1 → M.hdB ⟨a, b, xp⟩ l m j = true := by
        intro q j hj
        rcases Nat.lt_succ_iff_lt_or_eq.1 hj with h | rfl
        · exact HALL.out j h
        · exact q
      have hst := M.hdB_stop ⟨a, b, xp⟩ l m k hk HALL.out
      clear hV g0 g1 g2 f0 f1 f2 hg
      cases hb : M.hdB ⟨a, b, xp⟩ l m k
      · have HST := Lib.hid (hst hb)
        have HCV := Lib.hid hcV
        have HGV := Lib.hid (grown_trans (World.grownBy.refl w4 _) hgV)
        clear hkl hnx hst hb hcV hgV HCN
        go_wp2_with fail
        go_loopw [94] (fun _ wq => ∃ j : Nat, j ≤ l.length ∧ j ≤ m.length ∧ Hid (∀ i, i < j → M.tlB ⟨a, b, xp⟩ ((u.size : Int) - (s.size : Int)) l m i = true) ∧ ChAt wq w3.heap.size k j ∧ w4.grownBy wq (some w3.heap.size)) (fun _ wq => l.length - cellN wq ⟨w3.heap.size, 1, none⟩)
        case atStart => exact ⟨0, by omega, by omega, Lib.hid (fun j hj => by omega), HCV.out, HGV.out⟩
        case round =>
          rename World => wq
          obtain ⟨j, hj, hj2, HTA, hc, hg⟩ := hrel
          have hcn := hc.cell1
          have HCN := Lib.hid hcn
          have HCQ := Lib.hid hc
          have hKq : w3.heap.size < wq.heap.size := by have := hg.size; omega
          obtain ⟨g0, g1, g2, f0, f1, f2⟩ := hc
          clear hcn
          have hno := M.tlB_no ⟨a, b, xp⟩ ((u.size : Int) - (s.size : Int)) l m j
          have hst := M.tlB_stop ⟨a, b, xp⟩ ((u.size : Int) - (s.size : Int)) l m j hj HTA.out
          have HNO := Lib.hid hno
          have HST2 := Lib.hid hst
          have HG := Lib.hid hg
          clear hno hst hg
          go_upto_region 13 with fail
          go_cut [105] from 94 to 159 (fun c wx => c = .bool (decide (j < l.length) && decide (j < m.length)) ∧ wx = wq)
          case first =>
            by_cases h1 : j < l.length
            · have d1 : decide (j < l.length) = true := decide_eq_true h1
              by_cases h2 : j < m.length
              · have d2 : decide (j < m.length) = true := decide_eq_true h2
                go_wp2
                go_meet
                exact ⟨by simp [h1, h2], rfl⟩
              · have d2 : decide (j < m.length) = false := decide_eq_false h2
                go_wp2
                go_meet
                exact ⟨by simp [h1, h2], rfl⟩
            · have d1 : decide (j < l.length) = false := decide_eq_false h1
              go_wp2
              go_meet
              exact ⟨by simp [h1], rfl⟩
          case rest =>
            obtain ⟨rfl, rfl⟩ := hcut
            rename World => wq
            by_cases hin : j < l.length ∧ j < m.length
            · obtain ⟨h1, h2⟩ := hin
              rw [decide_eq_true h1, decide_eq_true h2, Bool.true_and]
              have q1 : l.length - 1 - j < l.length := by omega
              have q2 : m.length - 1 - j < m.length := by omega
              have heq := M.tlB_eq ⟨a, b, xp⟩ ((u.size : Int) - (s.size : Int)) l m j h1 h2
              have hfy := HFL.out _ (List.getElem_mem q1)
              have hfz := HFM.out _ (List.getElem_mem q2)
              have hxb := HG.out.cell HB4.out.c1 (by have := HB4.out.hz; simp; omega)
              dsimp only at heq hxb
              have HEQ := Lib.hid heq
              clear heq
              go_upto_region 14 with fail
              go_cut [13, 14] from 94 to 159 (fun c13 c14 wx => TwoBox w4 wq w3.heap.size l[l.length - 1 - j] m[m.length - 1 - j] c13 c14 wx)
              case first =>
                have hlw : LxSl wq a1 l := HL4.out.grown HG.out (Or.inr fun ad e => HNL.out ad e (by omega))
                have hmw : LxSl wq a3 m := HM4.out.grown HG.out (Or.inr fun ad e => HNM.out ad e (by omega))
                obtain ⟨bl, ol, rfl, hal⟩ := hlw.at h1
                obtain ⟨bm, om, rfl, ham⟩ := hmw.at h2
                have v0 := hal.c0 _ q1
                have v1 := hal.c1 _ q1
                have v2 := hal.c2 _ q1
                have z0 := ham.c0 _ q2
                have z1 := ham.c1 _ q2
                have z2 := ham.c2 _ q2
                have hbl := hal.lt
                have hbm := ham.lt
                have n1 : IntKind.i64.wrap ((l.length : Int) - 1) = (l.length : Int) - 1 := IntWalk.i64_in _ (by omega)
                have n2 : IntKind.i64.wrap ((l.length : Int) - 1 - (j : Int)) = (l.length : Int) - 1 - (j : Int) := IntWalk.i64_in _ (by omega)
                have n3 : (0 : Int) ≤ (l.length : Int) - 1 - (j : Int) := by omega
                have n4 : (l.length : Int) - 1 - (j : Int) < (l.length : Int) := by omega
                have n5 : ((l.length : Int) - 1 - (j : Int)).toNat = l.length - 1 - j := by omega
                have n6 : IntKind.i64.wrap ((m.length : Int) - 1) = (m.length : Int) - 1 := IntWalk.i64_in _ (by omega)
                have n7 : IntKind.i64.wrap ((m.length : Int) - 1 - (j : Int)) = (m.length : Int) - 1 - (j : Int) := IntWalk.i64_in _ (by omega)
                have n8 : (0 : Int) ≤ (m.length : Int) - 1 - (j : Int) := by omega
                have n9 : (m.length : Int) - 1 - (j : Int) < (m.length : Int) := by omega
                have n10 : ((m.length : Int) - 1 - (j : Int)).toNat = m.length - 1 - j := by omega
                obtain ⟨y, hy⟩ : ∃ y, l[l.length - 1 - j] = y := ⟨_, rfl⟩
                obtain ⟨z, hz⟩ : ∃ z, m[m.length - 1 - j] = z := ⟨_, rfl⟩
                rw [hy] at v0 v1 v2
                rw [hz] at z0 z1 z2
                have HY := Lib.hid hy
                have HZ := Lib.hid hz
                clear hlw hmw hal ham hy hz
                go_region
                · go_wp2_with fail
                  go_meet
                  rw [HY.out, HZ.out]
                  exact twoBox_ab w4 wq w3.heap.size y z _ hKq HG.out
                · go_wp2_with fail
                  go_meet
                  rw [HY.out, HZ.out]
                  exact twoBox_ba w4 wq w3.heap.size y z _ hKq HG.out
              case rest =>
                obtain ⟨A, B, rfl, rfl, t0, t1, t2, t3, t4, t5, hx1, hx2, hAB⟩ := hcut
                rename World => wd
                obtain ⟨y, hy⟩ : ∃ y, l[l.length - 1 - j] = y := ⟨_, rfl⟩
                obtain ⟨z, hz⟩ : ∃ z, m[m.length - 1 - j] = z := ⟨_, rfl⟩
                rw [hy] at t0 t1 t2 HEQ hfy
                rw [hz] at t3 t4 t5 HEQ hfz
                have hcd : ChAt wd w3.heap.size k j := HCQ.out.below hKq hx2
                have xb := hx1.cell HB4.out.c1 (by have := HB4.out.hz; simp; omega)
                dsimp only at xb
                obtain ⟨p1, p2', p3, p4⟩ := hfy
                obtain ⟨r1, r2, r3, r4⟩ := hfz
                have HCD := Lib.hid hcd
                have HX1 := Lib.hid hx1
                clear hy hz hcd hx1 g0 g1 g2 f0 f1 f2 hxb
                go_upto_region 15 with fail
                go_cut [155] from 94 to 159 (fun c wx => c = .bool (!(M.tlB ⟨a, b, xp⟩ ((u.size : Int) - (s.size : Int)) l m j)) ∧ wx = wd)
                case first =>
                  have heq : M.eqLx z (M.moved y ((u.size : Int) - (s.size : Int))) = decide (z.kind = y.kind ∧ z.text.data.toList = y.text.data.toList ∧ z.pos = y.pos + ((u.size : Int) - (s.size : Int))) := rfl
                  rw [heq] at HEQ
                  clear heq
                  by_cases e1 : y.pos < (b : Int)
                  · have d1 : decide (y.pos < (b : Int)) = true := decide_eq_true e1
                    have ht : (M.tlB ⟨a, b, xp⟩ ((u.size : Int) - (s.size : Int)) l m j) = false := by rw [HEQ.out]; rw [decide_eq_false (by omega)]; rfl
                    have HT := Lib.hid ht
                    clear ht
                    go_wp2
                    go_meet
                    exact ⟨by rw [HT.out]; rfl, rfl⟩
                  · have d1 : decide (y.pos < (b : Int)) = false := decide_eq_false e1
                    by_cases e2 : y.kind = z.kind
                    · have d2 : (y.kind == z.kind) = true := by rw [e2]; exact beq_self_eq_true _
                      have d2' : (y.kind != z.kind) = false := by rw [e2]; exact bne_self_eq_false _
                      by_cases e3 : y.text.data.toList = z.text.data.toList
                      · have d3 : (y.text.toList == z.text.toList) = true := by rw [str_ne]; exact decide_eq_true e3
                        have d3' : (y.text.toList != z.text.toList) = false := by rw [bne, d3]; rfl
                        have d3'' : y.text.toList = z.text.toList := by simpa using d3
                        by_cases e4 : z.pos = y.pos + ((u.size : Int) - (s.size : Int))
                        · have d4 : (z.pos - y.pos == (u.size : Int) - (s.size : Int)) = true := by rw [beq_iff_eq]; omega
                          have d4' : (z.pos - y.pos != (u.size : Int) - (s.size : Int)) = false := by rw [bne, d4]; rfl
                          have d4'' : z.pos - y.pos = (u.size : Int) - (s.size : Int) := by omega
                          have ht : (M.tlB ⟨a, b, xp⟩ ((u.size : Int) - (s.size : Int)) l m j) = true := by rw [HEQ.out]; rw [decide_eq_true (by omega), decide_eq_true ⟨e2.symm, e3.symm, e4⟩]; rfl
                          have HT := Lib.hid ht
                          clear ht
                          clear e1 e2 e3 e4
                          go_wp2
                          go_meet
                          exact ⟨by rw [HT.out]; rfl, rfl⟩
                        · have d4 : (z.pos - y.pos == (u.size : Int) - (s.size : Int)) = false := by rw [beq_eq_false_iff_ne]; omega
                          have d4' : (z.pos - y.pos != (u.size : Int) - (s.size : Int)) = true := by rw [bne, d4]; rfl
                          have d4'' : ¬ z.pos - y.pos = (u.size : Int) - (s.size : Int) := by omega
                          have ht : (M.tlB ⟨a, b, xp⟩ ((u.size : Int) - (s.size : Int)) l m j) = false := by rw [HEQ.out]; rw [decide_eq_false (fun q : _ ∧ _ ∧ _ => e4 q.2.2), Bool.and_false]
                          have HT := Lib.hid ht
                          clear ht
                          clear e1 e2 e3 e4
                          go_wp2
                          go_meet
                          exact ⟨by rw [HT.out]; rfl, rfl⟩
                      · have d3 : (y.text.toList == z.text.toList) = false := by rw [str_ne]; exact decide_eq_false e3
                        have d3' : (y.text.toList != z.text.toList) = true := by rw [bne, d3]; rfl
                        have d3'' : ¬ y.text.toList = z.text.toList := by simpa using d3
                        have ht : (M.tlB ⟨a, b, xp⟩ ((u.size : Int) - (s.size : Int)) l m j) = false := by rw [HEQ.out]; rw [decide_eq_false (fun q : _ ∧ _ ∧ _ => e3 q.2.1.symm), Bool.and_false]
                        have HT := Lib.hid ht
                        clear ht
                        clear e1 e2 e3
                        go_wp2
                        go_meet
                        exact ⟨by rw [HT.out]; rfl, rfl⟩
                    · have d2 : (y.kind == z.kind) = false := by rw [beq_eq_false_iff_ne]; exact e2
                      have d2' : (y.kind != z.kind) = true := by rw [bne, d2]; rfl
                      have ht : (M.tlB ⟨a, b, xp⟩ ((u.size : Int) - (s.size : Int)) l m j) = false := by rw [HEQ.out]; rw [decide_eq_false (fun q : _ ∧ _ ∧ _ => e2 q.1.symm), Bool.and_false]
                      have HT := Lib.hid ht
                      clear ht
                      go_wp2
                      go_meet
                      exact ⟨by rw [HT.out]; rfl, rfl⟩
                case rest =>
                  obtain ⟨rfl, rfl⟩ := hcut
                  rename World => wd
                  have hcd := HCD.out
                  have hKd : w3.heap.size < wd.heap.size := Nat.lt_of_lt_of_le hKq hx2.size
                  cases htl : (M.tlB ⟨a, b, xp⟩ ((u.size : Int) - (s.size : Int)) l m j)
                  · have htl2 : M.tail ⟨a, b, xp⟩ ((u.size : Int) - (s.size : Int)) l m = j := HST2.out htl
                    have hres := HRES.out
                    have hht := HHT.out
                    rw [HST.out, htl2] at hres hht
                    have hmw : m.length ≠ 0 → LxSl wd a3 m := fun h0 => HM4.out.grown HX1.out (Or.inr fun ad e => HNM.out ad e (by omega))
                    have hrY := (HX1.out.block (w.heap.size + 1) (by have := HB4.out.hz; omega) (by have := HB4.out.hz; simp; omega)).trans HB4.out.hr
                    have hbY : Below w.heap.size w wd := HB4.out.bw.grown HX1.out HB4.out.bw.size (fun q e => by cases e; have := HB4.out.hz; omega)
                    have hKY : w3.heap.size < wd.heap.size := by have := HX1.out.size; omega
                    have hHY : w.heap.size + 1 < wd.heap.size := by have := HB4.out.hz; have := HX1.out.size; omega
                    have hneK : w.heap.size + 1 ≠ w3.heap.size := by omega
                    obtain ⟨Y, hY⟩ : ∃ Y, wd = Y := ⟨_, rfl⟩
                    have hchY := HCD.out
                    rw [hY] at hmw hrY hbY hKY hHY hchY ⊢
                    have HTAILRES := Lib.hid hres
                    have HMW := Lib.hid hmw
                    have HRY := Lib.hid hrY
                    have HBY := Lib.hid hbY
                    obtain ⟨g0, g1, g2, f0, f1, f2⟩ := hchY
                    clear htl2 hres hmw hrY hbY hY
                    have n1 : IntKind.i64.wrap ((m.length : Int) - (j : Int)) = (m.length : Int) - (j : Int) := IntWalk.i64_in _ (by omega)
                    have n2 : (0 : Int) ≤ (m.length : Int) - (j : Int) := by omega
                    have n3 : (k : Int) ≤ (m.length : Int) - (j : Int) := by omega
                    have n4 : (m.length : Int) - (j : Int) ≤ (m.length : Int) := by omega
                    have n5 : ((m.length : Int) - (j : Int)).toNat = m.length - j := by omega
                    rcases a3 with _ | ad
                    · have hc0 := hn3 rfl
                      exfalso
                      omega
                    · by_cases hck : c3 = k
                      · subst hck
                        have hsl : LxSl Y.drew (some ad) ((m.take (m.length - j)).drop c3) := Or.inl (List.length_eq_zero_iff.1 (by simp only [List.length_drop, List.length_take]; omega))
                        have HSL := Lib.hid hsl
                        have hcl : (m.length : Int) - (j : Int) ≤ (c3 : Int) := by omega
                        clear hsl
                        go_wp2_with fail
                        refine still_tail 11 (by kernel_rfl) (by kernel_rfl) ?_
                        simp only [List.take_succ_cons, List.take_zero, List.drop_succ_cons, List.drop_zero]
                        repeat still_step
                        refine wpStill_nil ?_
                        go_wp2_with (at_builtin; refine app_lx rfl _ _ rfl Y.drew.heap.size (.slice none 0 0) [] rfl (own_nil Y.drew) (some ad) 0 ((m.take (m.length - j)).drop c3) (m.length - j - c3) (by simp only [List.length_drop, List.length_take]; omega) rfl (fun h => by cases h) HSL.out (by simp only [List.length_nil, List.length_drop, List.length_take]; omega) (Nat.le_refl _) ?_)
                        intro v5 w5 hown5 hgrow5
                        have hlen : ((m.take (m.length - j)).drop c3).length = m.length - j - c3 := by simp only [List.length_drop, List.length_take]; omega
                        have hown5' : w5.ownsRow Y.heap.size 47 3 v5 ((m.take (m.length - j)).drop c3).length (lxCells ((m.take (m.length - j)).drop c3)) := by rw [hlen]; simpa [hlen] using hown5
                        obtain ⟨a5, c5, rfl, _, _, hl5⟩ := own_lx hown5'
                        have hge : ∀ ad, a5 = some ad → Y.heap.size ≤ ad.block := by
                          intro ad e
                          subst e
                          rcases hown5'.2 with ⟨h, _⟩ | ⟨g, cap, cur, e, hb, _⟩
                          · cases h
                          · cases e; exact hb
                        have hB5 : Below Y.heap.size Y w5 := ((Below.refl Y.heap.size Y).drew).grown hgrow5 (Nat.le_refl _) (fun q e => by cases e)
                        rw [hlen]
                        have hr5 := (hB5.block _ hHY).trans HRY.out
                        obtain ⟨⟨s0, s1, s2⟩, f3, f4, f5⟩ := re_res hr5
                        have m0 := cell_below g0 hB5
                        have m1 := cell_below g1 hB5
                        have m2 := cell_below g2 hB5
                        have m3 := ((bcell hB5).2 w3.heap.size 2 hKY).trans f2
                        have hK5 : w3.heap.size < w5.heap.size := Nat.lt_of_lt_of_le hKY hB5.size
                        have hH5 : w.heap.size + 1 < w5.heap.size := Nat.lt_of_lt_of_le hHY hB5.size
                        have hneK' : ¬ w3.heap.size = w.heap.size + 1 := fun q => hneK q.symm
                        have hwK : w.heap.size ≤ w3.heap.size := by omega
                        have hl6 := ((((hl5.setOther w3.heap.size 2 (.slice a5 (m.length - j - c3) c5) (fun ad e => by have := hge ad e; omega)).setOther (w.heap.size + 1) 0 (.int .i64 c3) (fun ad e => by have := hge ad e; omega)).setOther (w.heap.size + 1) 1 (.int .i64 j) (fun ad e => by have := hge ad e; omega)).setOther (w.heap.size + 1) 2 (.slice a5 (m.length - j - c3) c5) (fun ad e => by have := hge ad e; omega))
                        have hb6 := below3 ((below2 HBY.out hB5).setCell (p := ⟨w3.heap.size, 2, none⟩) hwK (.slice a5 (m.length - j - c3) c5)) (w.heap.size + 1) (Nat.le_succ _) (.int .i64 c3) (.int .i64 j) (.slice a5 (m.length - j - c3) c5)
                        have HL6 := Lib.hid hl6
                        have HB6 := Lib.hid hb6
                        have HLEN := Lib.hid hlen
                        clear hown5 hown5' hgrow5 hB5 hl5 hl6 hb6 hlen hr5 hge g0 g1 g2 f0 f1 f2 n1 n2 n3 n4 n5
                        go_wp2_with fail
                        refine bodyPost_ret (v := .tuple #[.agg #[.int .i64 c3, .int .i64 j, .slice a5 (m.length - j - c3) c5], .int .i64 0, .int .i64 0]) (by simp [results, Tryz.results20, go_sem, s0, s1, s2]) rfl ?_
                        refine ⟨a5, c5, ?_, ?_, HB6.out⟩
                        · rw [HTAILRES.out]; dsimp only; rw [HLEN.out]; rfl
                        · rw [HTAILRES.out]; exact HL6.out
                      · have hck' : ¬ (c3 : Int) = (k : Int) := by omega
                        have hcl : (m.length : Int) - (j : Int) ≤ (c3 : Int) := by omega
                        have hsl : LxSl Y.drew (some (ad.add (k * 3))) ((m.take (m.length - j)).drop k) := by
                          by_cases h0 : m.length = 0
                          · exact Or.inl (by rw [List.length_eq_zero_iff.1 h0]; simp)
                          · exact ((HMW.out h0).cut k j hht).drew
                        have HSL := Lib.hid hsl
                        clear hsl
                        go_wp2_with fail
                        refine still_tail 11 (by kernel_rfl) (by kernel_rfl) ?_
                        simp only [List.take_succ_cons, List.take_zero, List.drop_succ_cons, List.drop_zero]
                        repeat still_step
                        refine wpStill_nil ?_
                        go_wp2_with (at_builtin; refine app_lx rfl _ _ rfl Y.drew.heap.size (.slice none 0 0) [] rfl (own_nil Y.drew) (some (ad.add (k * 3))) (c3 - k) ((m.take (m.length - j)).drop k) (m.length - j - k) (by simp only [List.length_drop, List.length_take]; omega) rfl (fun h => by cases h) HSL.out (by simp only [List.length_nil, List.length_drop, List.length_take]; omega) (Nat.le_refl _) ?_)
                        intro v5 w5 hown5 hgrow5
                        have hlen : ((m.take (m.length - j)).drop k).length = m.length - j - k := by simp only [List.length_drop, List.length_take]; omega
                        have hown5' : w5.ownsRow Y.heap.size 47 3 v5 ((m.take (m.length - j)).drop k).length (lxCells ((m.take (m.length - j)).drop k)) := by rw [hlen]; simpa [hlen] using hown5
                        obtain ⟨a5, c5, rfl, _, _, hl5⟩ := own_lx hown5'
                        have hge : ∀ ad, a5 = some ad → Y.heap.size ≤ ad.block := by
                          intro ad e
                          subst e
                          rcases hown5'.2 with ⟨h, _⟩ | ⟨g, cap, cur, e, hb, _⟩
                          · cases h
                          · cases e; exact hb
                        have hB5 : Below Y.heap.size Y w5 := ((Below.refl Y.heap.size Y).drew).grown hgrow5 (Nat.le_refl _) (fun q e => by cases e)
                        rw [hlen]
                        have hr5 := (hB5.block _ hHY).trans HRY.out
                        obtain ⟨⟨s0, s1, s2⟩, f3, f4, f5⟩ := re_res hr5
                        have m0 := cell_below g0 hB5
                        have m1 := cell_below g1 hB5
                        have m2 := cell_below g2 hB5
                        have m3 := ((bcell hB5).2 w3.heap.size 2 hKY).trans f2
                        have hK5 : w3.heap.size < w5.heap.size := Nat.lt_of_lt_of_le hKY hB5.size
                        have hH5 : w.heap.size + 1 < w5.heap.size := Nat.lt_of_lt_of_le hHY hB5.size
                        have hneK' : ¬ w3.heap.size = w.heap.size + 1 := fun q => hneK q.symm
                        have hwK : w.heap.size ≤ w3.heap.size := by omega
                        have hl6 := ((((hl5.setOther w3.heap.size 2 (.slice a5 (m.length - j - k) c5) (fun ad e => by have := hge ad e; omega)).setOther (w.heap.size + 1) 0 (.int .i64 k) (fun ad e => by have := hge ad e; omega)).setOther (w.heap.size + 1) 1 (.int .i64 j) (fun ad e => by have := hge ad e; omega)).setOther (w.heap.size + 1) 2 (.slice a5 (m.length - j - k) c5) (fun ad e => by have := hge ad e; omega))
                        have hb6 := below3 ((below2 HBY.out hB5).setCell (p := ⟨w3.heap.size, 2, none⟩) hwK (.slice a5 (m.length - j - k) c5)) (w.heap.size + 1) (Nat.le_succ _) (.int .i64 k) (.int .i64 j) (.slice a5 (m.length - j - k) c5)
                        have HL6 := Lib.hid hl6
                        have HB6 := Lib.hid hb6
                        have HLEN := Lib.hid hlen
                        clear hown5 hown5' hgrow5 hB5 hl5 hl6 hb6 hlen hr5 hge g0 g1 g2 f0 f1 f2 n1 n2 n3 n4 n5
                        go_wp2_with fail
                        refine bodyPost_ret (v := .tuple #[.agg #[.int .i64 k, .int .i64 j, .slice a5 (m.length - j - k) c5], .int .i64 0, .int .i64 0]) (by simp [results, Tryz.results20, go_sem, s0, s1, s2]) rfl ?_
                        refine ⟨a5, c5, ?_, ?_, HB6.out⟩
                        · rw [HTAILRES.out]; dsimp only; rw [HLEN.out]; rfl
                        · rw [HTAILRES.out]; exact HL6.out
                  · have hnx : ∀ i, i < j + 1 → M.tlB ⟨a, b, xp⟩ ((u.size : Int) - (s.size : Int)) l m i = true := by
                      intro i hi
                      rcases Nat.lt_succ_iff_lt_or_eq.1 hi with h | rfl
                      · exact HTA.out i h
                      · exact htl
                    have HNX := Lib.hid hnx
                    have HC2 := Lib.hid (ChAt.set1' hcd (j + 1) ((j : Int) + 1) (by omega))
                    have HG2 := Lib.hid (grown_trans HX1.out (grown_set wd w3.heap.size 1 (.int .i64 ((j : Int) + 1))))
                    obtain ⟨g0, g1, g2, f0, f1, f2⟩ := hcd
                    clear hnx htl
                    go_wp2_with fail
                    exact ⟨⟨j + 1, by omega, by omega, HNX.out, HC2.out, HG2.out⟩, by rw [HCN.out, HC2.out.cell1]; omega⟩
            · have htl2 : M.tail ⟨a, b, xp⟩ ((u.size : Int) - (s.size : Int)) l m = j := HST2.out (HNO.out hin)
              have hres := HRES.out
              have hht := HHT.out
              rw [HST.out, htl2] at hres hht
              have hmw : m.length ≠ 0 → LxSl wq a3 m := fun h0 => HM4.out.grown HG.out (Or.inr fun ad e => HNM.out ad e (by omega))
              have hrY := (HG.out.block (w.heap.size + 1) (by have := HB4.out.hz; omega) (by have := HB4.out.hz; simp; omega)).trans HB4.out.hr
              have hbY : Below w.heap.size w wq := HB4.out.bw.grown HG.out HB4.out.bw.size (fun q e => by cases e; have := HB4.out.hz; omega)
              have hKY : w3.heap.size < wq.heap.size := by have := HG.out.size; omega
              have hHY : w.heap.size + 1 < wq.heap.size := by have := HB4.out.hz; have := HG.out.size; omega
              have hneK : w.heap.size + 1 ≠ w3.heap.size := by omega
              obtain ⟨Y, hY⟩ : ∃ Y, wq = Y := ⟨_, rfl⟩
              have hchY := HCQ.out
              rw [hY] at hmw hrY hbY hKY hHY hchY ⊢
              have HTAILRES := Lib.hid hres
              have HMW := Lib.hid hmw
              have HRY := Lib.hid hrY
              have HBY := Lib.hid hbY
              obtain ⟨g0, g1, g2, f0, f1, f2⟩ := hchY
              clear htl2 hres hmw hrY hbY hY
              have n1 : IntKind.i64.wrap ((m.length : Int) - (j : Int)) = (m.length : Int) - (j : Int) := IntWalk.i64_in _ (by omega)
              have n2 : (0 : Int) ≤ (m.length : Int) - (j : Int) := by omega
              have n3 : (k : Int) ≤ (m.length : Int) - (j : Int) := by omega
              have n4 : (m.length : Int) - (j : Int) ≤ (m.length : Int) := by omega
              have n5 : ((m.length : Int) - (j : Int)).toNat = m.length - j := by omega
              rcases a3 with _ | ad
              · have hc0 := hn3 rfl
                subst hc0
                have hm0 : m.length = 0 := by omega
                have hk0 : k = 0 := by omega
                have hj0 : j = 0 := by omega
                subst hk0 hj0
                replace g0 : Y.cell? ⟨w3.heap.size, 0, none⟩ = some (.int .i64 0) := g0
                replace g1 : Y.cell? ⟨w3.heap.size, 1, none⟩ = some (.int .i64 0) := g1
                clear n1 n2 n3 n4 n5
                have w1' : IntKind.i64.wrap ((0 : Int) - 0) = 0 := IntWalk.i64_in _ (by omega)
                have w2' : IntKind.i64.wrap (0 : Int) = 0 := IntWalk.i64_in _ (by omega)
                obtain rfl : m = [] := List.length_eq_zero_iff.1 hm0
                have hsl : LxSl Y.drew none ((([] : List M.Lx).take (([] : List M.Lx).length - 0)).drop 0) := Or.inl (by simp)
                have HSL := Lib.hid hsl
                clear hsl
                go_wp2_with fail
                refine still_tail 11 (by kernel_rfl) (by kernel_rfl) ?_
                simp only [List.take_succ_cons, List.take_zero, List.drop_succ_cons, List.drop_zero]
                repeat still_step
                refine wpStill_nil ?_
                go_wp2_with (at_builtin; refine app_lx rfl _ _ rfl Y.drew.heap.size (.slice none 0 0) [] rfl (own_nil Y.drew) none 0 ((([] : List M.Lx).take (([] : List M.Lx).length - 0)).drop 0) 0 (by simp only [List.length_drop, List.length_take]; omega) rfl (fun _ => rfl) HSL.out (by simp only [List.length_nil, List.length_drop, List.length_take]; omega) (Nat.le_refl _) ?_)
                intro v5 w5 hown5 hgrow5
                have hlen : ((([] : List M.Lx).take (([] : List M.Lx).length - 0)).drop 0).length = 0 := by simp only [List.length_drop, List.length_take]; omega
                have hown5' : w5.ownsRow Y.heap.size 47 3 v5 ((([] : List M.Lx).take (([] : List M.Lx).length - 0)).drop 0).length (lxCells ((([] : List M.Lx).take (([] : List M.Lx).length - 0)).drop 0)) := by rw [hlen]; simpa [hlen] using hown5
                obtain ⟨a5, c5, rfl, _, _, hl5⟩ := own_lx hown5'
                have hge : ∀ ad, a5 = some ad → Y.heap.size ≤ ad.block := by
                  intro ad e
                  subst e
                  rcases hown5'.2 with ⟨h, _⟩ | ⟨g, cap, cur, e, hb, _⟩
                  · cases h
                  · cases e; exact hb
                have hB5 : Below Y.heap.size Y w5 := ((Below.refl Y.heap.size Y).drew).grown hgrow5 (Nat.le_refl _) (fun q e => by cases e)
                rw [hlen]
                have hr5 := (hB5.block _ hHY).trans HRY.out
                obtain ⟨⟨s0, s1, s2⟩, f3, f4, f5⟩ := re_res hr5
                have m0 := cell_below g0 hB5
                have m1 := cell_below g1 hB5
                have m2 := cell_below g2 hB5
                have m3 := ((bcell hB5).2 w3.heap.size 2 hKY).trans f2
                have hK5 : w3.heap.size < w5.heap.size := Nat.lt_of_lt_of_le hKY hB5.size
                have hH5 : w.heap.size + 1 < w5.heap.size := Nat.lt_of_lt_of_le hHY hB5.size
                have hneK' : ¬ w3.heap.size = w.heap.size + 1 := fun q => hneK q.symm
                have hwK : w.heap.size ≤ w3.heap.size := by omega
                have hl6 := ((((hl5.setOther w3.heap.size 2 (.slice a5 (0) c5) (fun ad e => by have := hge ad e; omega)).setOther (w.heap.size + 1) 0 (.int .i64 0) (fun ad e => by have := hge ad e; omega)).setOther (w.heap.size + 1) 1 (.int .i64 0) (fun ad e => by have := hge ad e; omega)).setOther (w.heap.size + 1) 2 (.slice a5 (0) c5) (fun ad e => by have := hge ad e; omega))
                have hb6 := below3 ((below2 HBY.out hB5).setCell (p := ⟨w3.heap.size, 2, none⟩) hwK (.slice a5 (0) c5)) (w.heap.size + 1) (Nat.le_succ _) (.int .i64 0) (.int .i64 0) (.slice a5 (0) c5)
                have HL6 := Lib.hid hl6
                have HB6 := Lib.hid hb6
                have HLEN := Lib.hid hlen
                clear hown5 hown5' hgrow5 hB5 hl5 hl6 hb6 hlen hr5 hge g0 g1 g2 f0 f1 f2
                go_wp2_with fail
                refine bodyPost_ret (v := .tuple #[.agg #[.int .i64 0, .int .i64 0, .slice a5 (0) c5], .int .i64 0, .int .i64 0]) (by simp [results, Tryz.results20, go_sem, s0, s1, s2]) rfl ?_
                refine ⟨a5, c5, ?_, ?_, HB6.out⟩
                · rw [HTAILRES.out]; dsimp only; rw [HLEN.out]; rfl
                · rw [HTAILRES.out]; exact HL6.out
              · by_cases hck : c3 = k
                · subst hck
                  have hsl : LxSl Y.drew (some ad) ((m.take (m.length - j)).drop c3) := Or.inl (List.length_eq_zero_iff.1 (by simp only [List.length_drop, List.length_take]; omega))
                  have HSL := Lib.hid hsl
                  have hcl : (m.length : Int) - (j : Int) ≤ (c3 : Int) := by omega
                  clear hsl
                  go_wp2_with fail
                  refine still_tail 11 (by kernel_rfl) (by kernel_rfl) ?_
                  simp only [List.take_succ_cons, List.take_zero, List.drop_succ_cons, List.drop_zero]
                  repeat still_step
                  refine wpStill_nil ?_
                  go_wp2_with (at_builtin; refine app_lx rfl _ _ rfl Y.drew.heap.size (.slice none 0 0) [] rfl (own_nil Y.drew) (some ad) 0 ((m.take (m.length - j)).drop c3) (m.length - j - c3) (by simp only [List.length_drop, List.length_take]; omega) rfl (fun h => by cases h) HSL.out (by simp only [List.length_nil, List.length_drop, List.length_take]; omega) (Nat.le_refl _) ?_)
                  intro v5 w5 hown5 hgrow5
                  have hlen : ((m.take (m.length - j)).drop c3).length = m.length - j - c3 := by simp only [List.length_drop, List.length_take]; omega
                  have hown5' : w5.ownsRow Y.heap.size 47 3 v5 ((m.take (m.length - j)).drop c3).length (lxCells ((m.take (m.length - j)).drop c3)) := by rw [hlen]; simpa [hlen] using hown5
                  obtain ⟨a5, c5, rfl, _, _, hl5⟩ := own_lx hown5'
                  have hge : ∀ ad, a5 = some ad → Y.heap.size ≤ ad.block := by
                    intro ad e
                    subst e
                    rcases hown5'.2 with ⟨h, _⟩ | ⟨g, cap, cur, e, hb, _⟩
                    · cases h
                    · cases e; exact hb
                  have hB5 : Below Y.heap.size Y w5 := ((Below.refl Y.heap.size Y).drew).grown hgrow5 (Nat.le_refl _) (fun q e => by cases e)
                  rw [hlen]
                  have hr5 := (hB5.block _ hHY).trans HRY.out
                  obtain ⟨⟨s0, s1, s2⟩, f3, f4, f5⟩ := re_res hr5
                  have m0 := cell_below g0 hB5
                  have m1 := cell_below g1 hB5
                  have m2 := cell_below g2 hB5
                  have m3 := ((bcell hB5).2 w3.heap.size 2 hKY).trans f2
                  have hK5 : w3.heap.size < w5.heap.size := Nat.lt_of_lt_of_le hKY hB5.size
                  have hH5 : w.heap.size + 1 < w5.heap.size := Nat.lt_of_lt_of_le hHY hB5.size
                  have hneK' : ¬ w3.heap.size = w.heap.size + 1 := fun q => hneK q.symm
                  have hwK : w.heap.size ≤ w3.heap.size := by omega
                  have hl6 := ((((hl5.setOther w3.heap.size 2 (.slice a5 (m.length - j - c3) c5) (fun ad e => by have := hge ad e; omega)).setOther (w.heap.size + 1) 0 (.int .i64 c3) (fun ad e => by have := hge ad e; omega)).setOther (w.heap.size + 1) 1 (.int .i64 j) (fun ad e => by have := hge ad e; omega)).setOther (w.heap.size + 1) 2 (.slice a5 (m.length - j - c3) c5) (fun ad e => by have := hge ad e; omega))
                  have hb6 := below3 ((below2 HBY.out hB5).setCell (p := ⟨w3.heap.size, 2, none⟩) hwK (.slice a5 (m.length - j - c3) c5)) (w.heap.size + 1) (Nat.le_succ _) (.int .i64 c3) (.int .i64 j) (.slice a5 (m.length - j - c3) c5)
                  have HL6 := Lib.hid hl6
                  have HB6 := Lib.hid hb6
                  have HLEN := Lib.hid hlen
                  clear hown5 hown5' hgrow5 hB5 hl5 hl6 hb6 hlen hr5 hge g0 g1 g2 f0 f1 f2 n1 n2 n3 n4 n5
                  go_wp2_with fail
                  refine bodyPost_ret (v := .tuple #[.agg #[.int .i64 c3, .int .i64 j, .slice a5 (m.length - j - c3) c5], .int .i64 0, .int .i64 0]) (by simp [results, Tryz.results20, go_sem, s0, s1, s2]) rfl ?_
                  refine ⟨a5, c5, ?_, ?_, HB6.out⟩
                  · rw [HTAILRES.out]; dsimp only; rw [HLEN.out]; rfl
                  · rw [HTAILRES.out]; exact HL6.out
                · have hck' : ¬ (c3 : Int) = (k : Int) := by omega
                  have hcl : (m.length : Int) - (j : Int) ≤ (c3 : Int) := by omega
                  have hsl : LxSl Y.drew (some (ad.add (k * 3))) ((m.take (m.length - j)).drop k) := by
                    by_cases h0 : m.length = 0
                    · exact Or.inl (by rw [List.length_eq_zero_iff.1 h0]; simp)
                    · exact ((HMW.out h0).cut k j hht).drew
                  have HSL := Lib.hid hsl
                  clear hsl
                  go_wp2_with fail
                  refine still_tail 11 (by kernel_rfl) (by kernel_rfl) ?_
                  simp only [List.take_succ_cons, List.take_zero, List.drop_succ_cons, List.drop_zero]
                  repeat still_step
                  refine wpStill_nil ?_
                  go_wp2_with (at_builtin; refine app_lx rfl _ _ rfl Y.drew.heap.size (.slice none 0 0) [] rfl (own_nil Y.drew) (some (ad.add (k * 3))) (c3 - k) ((m.take (m.length - j)).drop k) (m.length - j - k) (by simp only [List.length_drop, List.length_take]; omega) rfl (fun h => by cases h) HSL.out (by simp only [List.length_nil, List.length_drop, List.length_take]; omega) (Nat.le_refl _) ?_)
                  intro v5 w5 hown5 hgrow5
                  have hlen : ((m.take (m.length - j)).drop k).length = m.length - j - k := by simp only [List.length_drop, List.length_take]; omega
                  have hown5' : w5.ownsRow Y.heap.size 47 3 v5 ((m.take (m.length - j)).drop k).length (lxCells ((m.take (m.length - j)).drop k)) := by rw [hlen]; simpa [hlen] using hown5
                  obtain ⟨a5, c5, rfl, _, _, hl5⟩ := own_lx hown5'
                  have hge : ∀ ad, a5 = some ad → Y.heap.size ≤ ad.block := by
                    intro ad e
                    subst e
                    rcases hown5'.2 with ⟨h, _⟩ | ⟨g, cap, cur, e, hb, _⟩
                    · cases h
                    · cases e; exact hb
                  have hB5 : Below Y.heap.size Y w5 := ((Below.refl Y.heap.size Y).drew).grown hgrow5 (Nat.le_refl _) (fun q e => by cases e)
                  rw [hlen]
                  have hr5 := (hB5.block _ hHY).trans HRY.out
                  obtain ⟨⟨s0, s1, s2⟩, f3, f4, f5⟩ := re_res hr5
                  have m0 := cell_below g0 hB5
                  have m1 := cell_below g1 hB5
                  have m2 := cell_below g2 hB5
                  have m3 := ((bcell hB5).2 w3.heap.size 2 hKY).trans f2
                  have hK5 : w3.heap.size < w5.heap.size := Nat.lt_of_lt_of_le hKY hB5.size
                  have hH5 : w.heap.size + 1 < w5.heap.size := Nat.lt_of_lt_of_le hHY hB5.size
                  have hneK' : ¬ w3.heap.size = w.heap.size + 1 := fun q => hneK q.symm
                  have hwK : w.heap.size ≤ w3.heap.size := by omega
                  have hl6 := ((((hl5.setOther w3.heap.size 2 (.slice a5 (m.length - j - k) c5) (fun ad e => by have := hge ad e; omega)).setOther (w.heap.size + 1) 0 (.int .i64 k) (fun ad e => by have := hge ad e; omega)).setOther (w.heap.size + 1) 1 (.int .i64 j) (fun ad e => by have := hge ad e; omega)).setOther (w.heap.size + 1) 2 (.slice a5 (m.length - j - k) c5) (fun ad e => by have := hge ad e; omega))
                  have hb6 := below3 ((below2 HBY.out hB5).setCell (p := ⟨w3.heap.size, 2, none⟩) hwK (.slice a5 (m.length - j - k) c5)) (w.heap.size + 1) (Nat.le_succ _) (.int .i64 k) (.int .i64 j) (.slice a5 (m.length - j - k) c5)
                  have HL6 := Lib.hid hl6
                  have HB6 := Lib.hid hb6
                  have HLEN := Lib.hid hlen
                  clear hown5 hown5' hgrow5 hB5 hl5 hl6 hb6 hlen hr5 hge g0 g1 g2 f0 f1 f2 n1 n2 n3 n4 n5
                  go_wp2_with fail
                  refine bodyPost_ret (v := .tuple #[.agg #[.int .i64 k, .int .i64 j, .slice a5 (m.length - j - k) c5], .int .i64 0, .int .i64 0]) (by simp [results, Tryz.results20, go_sem, s0, s1, s2]) rfl ?_
                  refine ⟨a5, c5, ?_, ?_, HB6.out⟩
                  · rw [HTAILRES.out]; dsimp only; rw [HLEN.out]; rfl
                  · rw [HTAILRES.out]; exact HL6.out
      · have h1 := hkl hb
        have HNX := Lib.hid (hnx hb)
        have HC2 := Lib.hid (ChAt.set0' hcV (k + 1) ((k : Int) + 1) (by omega))
        have HG2 := Lib.hid (grown_trans hgV (grown_set V w3.heap.size 0 (.int .i64 ((k : Int) + 1))))
        obtain ⟨g0, g1, g2, f0, f1, f2⟩ := hcV
        clear hkl hnx hst hb hgV
        go_wp2_with fail
        exact ⟨⟨k + 1, by omega, HNX.out, HC2.out, HG2.out⟩, by rw [HCN.out, HC2.out.cell0]; omega⟩
end Go.Proofs.YtcaanpifkcaldaaGreatDoor
