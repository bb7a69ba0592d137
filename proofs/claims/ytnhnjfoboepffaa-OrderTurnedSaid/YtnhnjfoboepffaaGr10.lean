/- Texts of one's own, joined: OrdSa, OrdBd, OrdBf. -/
import Derived.Test.YtnhnjfoboepffaaGr7
import Derived.Test.YtnhnjfoboepffaaGr1
import Derived.Deep.RegionHeldLaw
import Derived.Deep.DeepCutAuto
import Derived.Deep.RegionWith
import Derived.Laws.Concat
namespace Go.Proofs.Ytnhnjfoboepffaa
open Go.RowKit

namespace M
/-- A shape. -/
inductive Sh where
  | mk (kind : Nat) (name : ByteArray) (kids : List Sh)
def Sh.kind : Sh → Nat | .mk k _ _ => k
def Sh.name : Sh → ByteArray | .mk _ n _ => n
def Sh.kids : Sh → List Sh | .mk _ _ ks => ks
mutual
/-- How many shapes there are in one. -/
def Sh.sz : Sh → Nat
  | .mk _ _ ks => Sh.szs ks + 1
def Sh.szs : List Sh → Nat
  | [] => 0
  | s :: ks => s.sz + Sh.szs ks
end
theorem Sh.sz_kid : ∀ (ks : List Sh) (i : Nat) (h : i < ks.length), ks[i].sz ≤ Sh.szs ks
  | s :: ks, 0, _ => by rw [Sh.szs]; simp
  | s :: ks, i + 1, h => by
    have := Sh.sz_kid ks i (by simpa using h)
    rw [Sh.szs, List.getElem_cons_succ]; omega
theorem Sh.sz_lt (s : Sh) (i : Nat) (h : i < s.kids.length) : s.kids[i].sz < s.sz := by
  cases s with
  | mk k n ks =>
    have := Sh.sz_kid ks i h
    show ks[i].sz < Sh.sz (.mk k n ks)
    rw [Sh.sz]; omega
/-- Whether a shape has more levels than some. -/
def deepB : Sh → Nat → Bool
  | _, 0 => true
  | .mk _ _ ks, l + 1 => ks.any fun k => deepB k l
theorem deepB_succ (s : Sh) (l : Nat) : deepB s (l + 1) = s.kids.any fun k => deepB k l := by cases s; rfl
theorem allN_all {α : Type} (l : List α) (d : α) (p : α → Bool) : allN (fun i => p (l.getD i d)) l.length = l.all p := by
  rw [Bool.eq_iff_iff, allN_iff, List.all_eq_true]
  constructor
  · intro h x hx
    obtain ⟨i, hi, rfl⟩ := List.getElem_of_mem hx
    have := h i hi
    rwa [getD_in l d i hi] at this
  · intro h i hi
    rw [getD_in l d i hi]
    exact h _ (List.getElem_mem hi)
end M
abbrev shV (s : M.Sh) (a : Option Addr) (c : Nat) : Value := .agg #[.int .u8 s.kind, .string s.name, .slice a s.kids.length c]
mutual
/-- A shape whose kids lie in memory. -/
def ShAt (w : World) : M.Sh → Option Addr → Nat → Prop
  | .mk _ _ ks, a, c => (a = none → c = 0) ∧ ks.length ≤ c ∧ ks.length ≤ 1000000 ∧ (ks = [] ∨ ∃ b off, a = some ⟨b, off, none⟩ ∧ b < w.heap.size ∧ KidsAt w ks b off)
def KidsAt (w : World) : List M.Sh → Nat → Nat → Prop
  | [], _, _ => True
  | s :: ks, b, off => (∃ a c, w.cell? ⟨b, off, none⟩ = some (.int .u8 s.kind) ∧ w.cell? ⟨b, off + 1, none⟩ = some (.string s.name) ∧ w.cell? ⟨b, off + 2, none⟩ = some (.slice a s.kids.length c) ∧ ShAt w s a c) ∧ KidsAt w ks b (off + 3)
end
theorem KidsAt.at {w : World} : ∀ {ks : List M.Sh} {b off : Nat}, KidsAt w ks b off → ∀ i, (h : i < ks.length) → ∃ a c, w.cell? ⟨b, off + i * 3, none⟩ = some (.int .u8 ks[i].kind) ∧ w.cell? ⟨b, off + i * 3 + 1, none⟩ = some (.string ks[i].name) ∧ w.cell? ⟨b, off + i * 3 + 2, none⟩ = some (.slice a ks[i].kids.length c) ∧ ShAt w ks[i] a c
  | s :: ks, b, off, h, 0, _ => by rw [KidsAt] at h; simpa using h.1
  | s :: ks, b, off, h, i + 1, hi => by
    rw [KidsAt] at h
    have := KidsAt.at h.2 i (by simpa using hi)
    rw [show off + (i + 1) * 3 = off + 3 + i * 3 from by omega]
    simpa using this
mutual
theorem ShAt.below {w w' : World} (hB : Below w.heap.size w w') : ∀ {s : M.Sh} {a : Option Addr} {c : Nat}, ShAt w s a c → ShAt w' s a c
  | .mk k n ks, a, c, h => by
    rw [ShAt] at h ⊢
    obtain ⟨h1, h2, h3, h4⟩ := h
    refine ⟨h1, h2, h3, ?_⟩
    rcases h4 with h4 | ⟨b, off, e, hb, h4⟩
    · exact Or.inl h4
    · exact Or.inr ⟨b, off, e, Nat.lt_of_lt_of_le hb hB.size, KidsAt.below hB h4⟩
theorem KidsAt.below {w w' : World} (hB : Below w.heap.size w w') : ∀ {ks : List M.Sh} {b off : Nat}, KidsAt w ks b off → KidsAt w' ks b off
  | [], _, _, _ => by rw [KidsAt]; trivial
  | s :: ks, b, off, h => by
    rw [KidsAt] at h ⊢
    obtain ⟨⟨a, c, h1, h2, h3, h4⟩, h5⟩ := h
    exact ⟨⟨a, c, cell_below h1 hB, cell_below h2 hB, cell_below h3 hB, ShAt.below hB h4⟩, KidsAt.below hB h5⟩
end
theorem ShAt.parts {w : World} {s : M.Sh} {a : Option Addr} {c : Nat} (h : ShAt w s a c) : (a = none → c = 0) ∧ s.kids.length ≤ c ∧ s.kids.length ≤ 1000000 ∧ ∀ i, (hi : i < s.kids.length) → ∃ b off, a = some ⟨b, off, none⟩ ∧ b < w.heap.size ∧ ∃ a' c', w.cell? ⟨b, off + i * 3, none⟩ = some (.int .u8 s.kids[i].kind) ∧ w.cell? ⟨b, off + i * 3 + 1, none⟩ = some (.string s.kids[i].name) ∧ w.cell? ⟨b, off + i * 3 + 2, none⟩ = some (.slice a' s.kids[i].kids.length c') ∧ ShAt w s.kids[i] a' c' := by
  cases s with
  | mk k n ks =>
    rw [ShAt] at h
    obtain ⟨h1, h2, h3, h4⟩ := h
    refine ⟨h1, h2, h3, fun i hi => ?_⟩
    rcases h4 with h4 | ⟨b, off, e, hb, h4⟩
    · have hi' : i < ks.length := hi
      rw [h4] at hi'; simp at hi'
    · exact ⟨b, off, e, hb, KidsAt.at h4 i hi⟩
/-- The cells of a box that holds a shape. -/
theorem shBox {w : World} {B : Nat} {s : M.Sh} {a : Option Addr} {c : Nat} {T : TypeId} (h : w.heap[B]? = some (.cells #[.int .u8 s.kind, .string s.name, .slice a s.kids.length c] T (0, 0))) :
    w.cell? ⟨B, 0, none⟩ = some (.int .u8 s.kind) ∧ w.cell? ⟨B, 1, none⟩ = some (.string s.name) ∧ w.cell? ⟨B, 2, none⟩ = some (.slice a s.kids.length c) :=
  ⟨by rw [Lib.cell_of_heap h]; rfl, by rw [Lib.cell_of_heap h]; rfl, by rw [Lib.cell_of_heap h]; rfl⟩

set_option maxHeartbeats 2000000 in
set_option maxRecDepth 100000 in
theorem idxF_shp (s : M.Sh) (a : Option Addr) (c g : Nat) (lb : Array Value) (p : Nat → Bool) (w : World) (hs : ShAt w s a c)
    (eg : ∀ args w, (callFunc g args).run Try.prog w = .ok (.enter g args) w)
    (hcl : ∀ i, (hi : i < s.kids.length) → ∀ w1 a' c', Below w.heap.size w w1 → ShAt w1 s.kids[i] a' c' → Calls Try.prog g (#[shV s.kids[i] a' c'] ++ lb) w1 fun e w2 => e = .returned (.bool (p i)) ∧ Below w1.heap.size w1 w2) :
    Calls Try.prog 91 #[.slice a s.kids.length c, .func (.func g) #[] lb] w (IdxPost p s.kids.length w) := by
  have HS := Lib.hid hs
  have HCL := Lib.hid hcl
  have hn := hs.parts.2.2.1
  clear hs hcl
  go_enter Try.func91, Try.ntmps91
  go_wp2_with fail
  go_loopw [5, 8] (fun _ i wr => ∃ k : Nat, k ≤ s.kids.length ∧ i = .int .i64 k ∧ Hid (∀ j, j < s.kids.length → j < k → p j = false) ∧ Below w.heap.size w wr) (fun _ i _ => s.kids.length - (intOf i).toNat)
  case atStart => exact ⟨0, by omega, rfl, Lib.hid (fun j _ hj => by omega), Below.refl _ _⟩
  case round =>
    rename_i wr
    obtain ⟨k, hk, rfl, HB, hB⟩ := hrel
    by_cases hlt : k < s.kids.length
    · obtain ⟨b, off, rfl, hbz, a', c', c0, c1, c2, hsh⟩ := ((HS.out.below hB).parts.2.2.2) k hlt
      have n1 : (k : Int) < (s.kids.length : Int) := by omega
      have n2 : (0 : Int) ≤ (k : Int) := by omega
      have hcall := HCL.out k hlt wr a' c' hB hsh
      unfold shV at hcall
      obtain ⟨kd, hkd⟩ : ∃ x, s.kids[k] = x := ⟨_, rfl⟩
      rw [hkd] at c0 c1 c2 hcall
      clear hsh hkd
      cases hp : p k with
      | true =>
        rw [hp] at hcall
        have HC := Lib.hid hcall
        have HP := Lib.hid hp
        clear hcall hp
        go_wp2_with fail
        refine HC.out.mono ?_
        rintro e w2 ⟨rfl, hB2⟩
        go_wp2_with fail
        go_ret
        exact ⟨Or.inr ⟨k, rfl, hlt, HP.out⟩, below2 hB hB2⟩
      | false =>
        rw [hp] at hcall
        have HC := Lib.hid hcall
        have HN := Lib.hid (show ∀ j, j < s.kids.length → j < k + 1 → p j = false from fun j hj h => by
          by_cases e : j = k
          · subst e; exact hp
          · exact HB.out j hj (by omega))
        clear hcall hp
        go_wp2_with fail
        refine HC.out.mono ?_
        rintro e w2 ⟨rfl, hB2⟩
        go_wp2_with fail
        go_roundw
        case rel => exact ⟨k + 1, by omega, by go_num, HN, below2 hB hB2⟩
        case measure => simp [intOf]; omega
    · obtain rfl : k = s.kids.length := by omega
      have m1 : decide ((s.kids.length : Int) < (s.kids.length : Int)) = false := decide_eq_false (by omega)
      go_wp2_with fail
      go_ret
      exact ⟨Or.inl ⟨rfl, fun j hj => HB.out j hj hj⟩, hB⟩

set_option maxHeartbeats 1000000 in
set_option maxRecDepth 100000 in
theorem contF_shp (s : M.Sh) (a : Option Addr) (c g : Nat) (lb : Array Value) (p : Nat → Bool) (w : World) (hs : ShAt w s a c)
    (eg : ∀ args w, (callFunc g args).run Try.prog w = .ok (.enter g args) w)
    (hcl : ∀ i, (hi : i < s.kids.length) → ∀ w1 a' c', Below w.heap.size w w1 → ShAt w1 s.kids[i] a' c' → Calls Try.prog g (#[shV s.kids[i] a' c'] ++ lb) w1 fun e w2 => e = .returned (.bool (!p i)) ∧ Below w1.heap.size w1 w2) :
    Calls Try.prog 70 #[.slice a s.kids.length c, .func (.func g) #[] lb] w fun e w' => e = .returned (.bool (!M.allN p s.kids.length)) ∧ Below w.heap.size w w' := by
  have HC := Lib.hid (idxF_shp s a c g lb (fun i => !p i) w hs eg hcl)
  clear hs hcl
  go_enter Try.func70, Try.ntmps70
  go_wp2_with fail
  refine HC.out.mono ?_
  rintro e w1 ⟨⟨rfl, hall⟩ | ⟨k, rfl, hk, hp⟩, hB⟩
  · have hr : M.allN p s.kids.length = true := (M.allN_iff p _).2 fun k hk => by have := hall k hk; simpa using this
    have HR := Lib.hid hr
    clear hr hall
    go_wp2_with fail
    go_ret
    exact ⟨ret_bool (by rw [HR.out]; rfl), hB⟩
  · have hr : M.allN p s.kids.length = false := M.allN_no hk (by simpa using hp)
    have HR := Lib.hid hr
    have d1 : decide ((0 : Int) ≤ (k : Int)) = true := decide_eq_true (by omega)
    clear hr hp
    go_wp2_with fail
    go_ret
    exact ⟨ret_bool (by rw [HR.out]; rfl), hB⟩

theorem enters_isDeeper1 : ∀ args w, (callFunc 71 args).run Try.prog w = .ok (.enter 71 args) w := enters_of Try.func71 (by kernel_rfl) rfl

set_option maxHeartbeats 1000000 in
set_option maxRecDepth 100000 in
theorem isDeeper1_any (s : M.Sh) (a : Option Addr) (c b l : Nat) (r : Bool) (w : World) (hl : l ≤ 1000) (hc : w.cell? ⟨b, 0, none⟩ = some (.int .i64 (l + 1 : Nat)))
    (hcl : ∀ w1, Below w.heap.size w w1 → Calls Try.prog 47 #[shV s a c, .int .i64 l] w1 fun e w2 => e = .returned (.bool r) ∧ Below w1.heap.size w1 w2) :
    Calls Try.prog 71 #[shV s a c, .pointer (some ⟨b, 0, none⟩)] w fun e w' => e = .returned (.bool r) ∧ Below w.heap.size w w' := by
  have HB := Lib.hid (below1 w (.cells #[.int .u8 s.kind, .string s.name, .slice a s.kids.length c] 57))
  have hcall := hcl _ HB.out
  have HC := Lib.hid hcall
  have hlt : b < w.heap.size := World.block_lt_of_cell? _ _ hc
  obtain ⟨m, hm⟩ : ∃ m : Nat, l + 1 = m := ⟨_, rfl⟩
  rw [hm] at hc
  have e1 : (m : Int) - 1 = (l : Int) := by omega
  clear hcl hcall
  go_enter Try.func71, Try.ntmps71
  go_wp2_with fail
  refine HC.out.mono ?_
  rintro e w1 ⟨rfl, hB1⟩
  have hB := below2 HB.out hB1
  go_wp2_with fail
  go_ret
  exact ⟨rfl, hB⟩

set_option maxHeartbeats 1000000 in
set_option maxRecDepth 100000 in
theorem isDeeper_any : ∀ (l : Nat) (s : M.Sh) (a : Option Addr) (c : Nat) (w : World), l ≤ 1000 → ShAt w s a c →
    Calls Try.prog 47 #[shV s a c, .int .i64 l] w fun e w' => e = .returned (.bool (M.deepB s l)) ∧ Below w.heap.size w w' := by
  intro l
  induction l with
  | zero =>
    intro s a c w hl hs
    have HR := Lib.hid (show M.deepB s 0 = true from by cases s; rfl)
    have hB := belowA (below1 w (.cells #[.int .u8 s.kind, .string s.name, .slice a s.kids.length c] 57)) (.cells #[.int .i64 0] 3)
    clear hs
    go_enter Try.func47, Try.ntmps47
    go_wp2_with fail
    go_ret
    exact ⟨ret_bool HR.out.symm, hB⟩
  | succ l ih =>
    intro s a c w hl hs
    have hBB := belowA (below1 w (.cells #[.int .u8 s.kind, .string s.name, .slice a s.kids.length c] 57)) (.cells #[.int .i64 (l + 1 : Nat)] 3)
    have hcb : ((w.alloc (.cells #[.int .u8 s.kind, .string s.name, .slice a s.kids.length c] 57)).alloc (.cells #[.int .i64 (l + 1 : Nat)] 3)).cell? ⟨w.heap.size + 1, 0, none⟩ = some (.int .i64 (l + 1 : Nat)) := by
      rw [World.cell?_alloc_at _ _ _ _ (by simp)]; rfl
    have hcall := contF_shp s a c 71 #[.pointer (some ⟨w.heap.size + 1, 0, none⟩)] (fun i => !(M.deepB (s.kids.getD i (.mk 0 ⟨#[]⟩ [])) l)) _ (hs.below hBB) enters_isDeeper1 (fun i hi w1 a' c' hB1 hsh => by
      rw [getD_in _ _ _ hi, Bool.not_not]
      exact isDeeper1_any s.kids[i] a' c' (w.heap.size + 1) l _ w1 (by omega) (cell_below hcb hB1) (fun w2 hB2 => ih s.kids[i] a' c' w2 (by omega) (hsh.below hB2)))
    have hres : (!M.allN (fun i => !(M.deepB (s.kids.getD i (.mk 0 ⟨#[]⟩ [])) l)) s.kids.length) = M.deepB s (l + 1) := by
      rw [M.allN_all s.kids (.mk 0 ⟨#[]⟩ []) (fun k => !M.deepB k l), M.deepB_succ, Bool.eq_iff_iff]
      simp
    rw [hres] at hcall
    have HC := Lib.hid hcall
    have HBB := Lib.hid hBB
    obtain ⟨m, hm⟩ : ∃ m : Nat, l + 1 = m := ⟨_, rfl⟩
    rw [hm] at HC HBB ⊢
    have k1 : ((m : Int) == 0) = false := by rw [beq_eq_false_iff_ne]; omega
    have k2 : (m == 0) = false := by rw [beq_eq_false_iff_ne]; omega
    clear hs hcall hres hcb hBB ih hm
    go_enter Try.func47, Try.ntmps47
    go_wp2_with fail
    refine HC.out.mono ?_
    rintro e w1 ⟨rfl, hB1⟩
    have hB := below2 HBB.out hB1
    go_wp2_with fail
    go_ret
    exact ⟨rfl, hB⟩
end Go.Proofs.Ytnhnjfoboepffaa

namespace Go.Proofs.Ytnhnjfoboepffaa
open Go.RowKit

abbrev tb0 : Array Value := #[.string ⟨#[]⟩, .slice none 0 0, .slice none 0 0, .slice none 0 0]
/-- How far the first statement of Copy has come. -/
structure CpI (t : M.Tb) (w0 : World) (N : Nat) (b2 b5 b6 b9 b10 b11 b12 : Bool) (x3 x7 x10 x11 x14 x15 s r : Value) (B : Nat) (w : World) : Prop where
  fl : (b5 = true → b2 = true) ∧ (b9 = true → b6 = true ∧ b5 = true) ∧ (b10 = true → b5 = true ∧ b9 = true) ∧ (b12 = true → b10 = true ∧ b11 = true)
  nz : N ≤ w0.heap.size
  below : Below N w0 w
  s1 : b2 = true → b5 = false → x7 = s ∧ s ≠ .slice none 0 0 ∧ w.ownsRow N 9 1 s ([] : List ByteArray).length (([] : List ByteArray).map .string)
  s2 : b5 = true → x10 = s ∧ s ≠ .slice none 0 0 ∧ w.ownsRow N 9 1 s t.elems.length (t.elems.map .string)
  r1 : b6 = true → b9 = false → x11 = r ∧ r ≠ .slice none 0 0 ∧ w.ownsRow N 4 1 r ([] : List Bool).length (([] : List Bool).map .bool)
  r2 : b9 = true → x14 = r ∧ r ≠ .slice none 0 0 ∧ w.ownsRow N 4 1 r t.wrong.length (t.wrong.map .bool)
  k : b10 = true → x15 = .agg #[.string t.name, s, .slice none 0 0, r]
  bx : b11 = true → x3 = .pointer (some ⟨B, 0, none⟩) ∧ N ≤ B ∧ w.heap[B]? = some (.cells (if b12 then #[.string t.name, s, .slice none 0 0, r] else tb0) 26 (0, 0))
  d1 : b2 = true → b6 = true → s.ownBlock ≠ r.ownBlock
  d2 : b2 = true → b11 = true → s.ownBlock ≠ some B
  d3 : b6 = true → b11 = true → r.ownBlock ≠ some B
theorem own_blk {w : World} {base : Nat} {e : TypeId} {size : Nat} {v : Value} {n : Nat} {xs : List Value} (h : w.ownsRow base e size v n xs) (hn : v ≠ .slice none 0 0) : ∃ g, v.ownBlock = some g ∧ base ≤ g ∧ g < w.heap.size := by
  rcases h.2 with ⟨h1, _⟩ | ⟨g, cap, cur, e1, _⟩
  · exact absurd h1 hn
  · have : v.ownBlock = some g := by rw [e1]; rfl
    exact ⟨g, this, own_lt h this⟩
theorem heap_lt {w : World} {B : Nat} {o : Obj} (h : w.heap[B]? = some o) : B < w.heap.size := by
  rcases Nat.lt_or_ge B w.heap.size with q | q
  · exact q
  · rw [Array.getElem?_eq_none q] at h; cases h
theorem alloc_at (w : World) (o : Obj) {k : Nat} (h : k < w.heap.size) : (w.alloc o).heap[k]? = w.heap[k]? := (below1 w o).block k h
section
variable {t : M.Tb} {w0 : World} {N : Nat} {b2 b5 b6 b9 b10 b11 b12 : Bool} {x3 x7 x10 x11 x14 x15 s r : Value} {B : Nat} {w : World}
theorem CpI.str_lt (h : CpI t w0 N b2 b5 b6 b9 b10 b11 b12 x3 x7 x10 x11 x14 x15 s r B w) (h2 : b2 = true) : ∃ g, s.ownBlock = some g ∧ N ≤ g ∧ g < w.heap.size := by
  cases hb : b5 with
  | true => obtain ⟨_, k1, k2⟩ := h.s2 hb; exact own_blk k2 k1
  | false => obtain ⟨_, k1, k2⟩ := h.s1 h2 hb; exact own_blk k2 k1
theorem CpI.row_lt (h : CpI t w0 N b2 b5 b6 b9 b10 b11 b12 x3 x7 x10 x11 x14 x15 s r B w) (h6 : b6 = true) : ∃ g, r.ownBlock = some g ∧ N ≤ g ∧ g < w.heap.size := by
  cases hb : b9 with
  | true => obtain ⟨_, k1, k2⟩ := h.r2 hb; exact own_blk k2 k1
  | false => obtain ⟨_, k1, k2⟩ := h.r1 h6 hb; exact own_blk k2 k1
theorem own_slice' {v : Value} {w : World} {n : Nat} {e : TypeId} {xs : List Value} {b : Nat} (h : w.ownsRow b e 1 v n xs) : ∃ a c, v = .slice a n c := own_slice h
theorem CpI.str (h : CpI t w0 N b2 b5 b6 b9 true b11 b12 x3 x7 x10 x11 x14 x15 s r B w) : w.ownsRow N 9 1 s t.elems.length (t.elems.map .string) := (h.s2 (h.fl.2.2.1 rfl).1).2.2
theorem CpI.row (h : CpI t w0 N b2 b5 b6 b9 true b11 b12 x3 x7 x10 x11 x14 x15 s r B w) : w.ownsRow N 4 1 r t.wrong.length (t.wrong.map .bool) := (h.r2 (h.fl.2.2.1 rfl).2).2.2
/-- Behind a step that leaves the blocks as they are. -/
theorem CpI.same (h : CpI t w0 N b2 b5 b6 b9 b10 b11 b12 x3 x7 x10 x11 x14 x15 s r B w) {w' : World} (hB : Below N w0 w') (hk : ∀ k, k < w.heap.size → w'.heap[k]? = w.heap[k]?) : CpI t w0 N b2 b5 b6 b9 b10 b11 b12 x3 x7 x10 x11 x14 x15 s r B w' := by
  refine ⟨h.fl, h.nz, hB, fun q q' => ?_, fun q => ?_, fun q q' => ?_, fun q => ?_, h.k, fun q => ?_, h.d1, h.d2, h.d3⟩
  · obtain ⟨a, b, c⟩ := h.s1 q q'; exact ⟨a, b, own_same c fun g hg => hk g (own_lt c hg).2⟩
  · obtain ⟨a, b, c⟩ := h.s2 q; exact ⟨a, b, own_same c fun g hg => hk g (own_lt c hg).2⟩
  · obtain ⟨a, b, c⟩ := h.r1 q q'; exact ⟨a, b, own_same c fun g hg => hk g (own_lt c hg).2⟩
  · obtain ⟨a, b, c⟩ := h.r2 q; exact ⟨a, b, own_same c fun g hg => hk g (own_lt c hg).2⟩
  · obtain ⟨a, b, c⟩ := h.bx q; exact ⟨a, b, by rw [hk B (heap_lt c)]; exact c⟩
theorem CpI.le (h : CpI t w0 N b2 b5 b6 b9 b10 b11 b12 x3 x7 x10 x11 x14 x15 s r B w) : N ≤ w.heap.size := Nat.le_trans h.nz h.below.size
theorem CpI.step2 (h : CpI t w0 N false b5 b6 b9 b10 b11 b12 x3 x7 x10 x11 x14 x15 s r B w) :
    CpI t w0 N true b5 b6 b9 b10 b11 b12 x3 (.slice (some ⟨w.heap.size, 0, none⟩) 0 0) x10 x11 x14 x15 (.slice (some ⟨w.heap.size, 0, none⟩) 0 0) r B (w.alloc (.cells #[] 9)) := by
  have h5 : b5 = false := by cases b5; rfl; exact absurd (h.fl.1 rfl) (by simp)
  subst h5
  have h9 : b9 = false := by cases b9; rfl; exact absurd (h.fl.2.1 rfl).2 (by simp)
  subst h9
  have h10 : b10 = false := by cases b10; rfl; exact absurd (h.fl.2.2.1 rfl).1 (by simp)
  subst h10
  have h12 : b12 = false := by cases b12; rfl; exact absurd (h.fl.2.2.2 rfl).1 (by simp)
  subst h12
  refine ⟨⟨by simp, by simp, by simp, by simp⟩, h.nz, h.below.alloc h.le _, fun _ _ => ⟨rfl, by simp, own_made w N _ 1 h.le⟩, by simp, fun q q' => ?_, by simp, by simp, fun q => ?_, fun _ q e => ?_, fun _ q e => ?_, h.d3⟩
  · obtain ⟨a, b, c⟩ := h.r1 q q'; exact ⟨a, b, own_same c fun g hg => alloc_at _ _ (own_lt c hg).2⟩
  · obtain ⟨a, b, c⟩ := h.bx q; exact ⟨a, b, by rw [alloc_at _ _ (heap_lt c)]; exact c⟩
  · obtain ⟨g, e1, _, h3⟩ := h.row_lt q
    rw [e1] at e
    have : w.heap.size = g := by injection e
    omega
  · have h3 := heap_lt (h.bx q).2.2
    have : w.heap.size = B := by injection e
    omega
theorem CpI.step6 (h : CpI t w0 N b2 b5 false b9 b10 b11 b12 x3 x7 x10 x11 x14 x15 s r B w) :
    CpI t w0 N b2 b5 true b9 b10 b11 b12 x3 x7 x10 (.slice (some ⟨w.heap.size, 0, none⟩) 0 0) x14 x15 s (.slice (some ⟨w.heap.size, 0, none⟩) 0 0) B (w.alloc (.cells #[] 4)) := by
  have h9 : b9 = false := by cases b9; rfl; exact absurd (h.fl.2.1 rfl).1 (by simp)
  subst h9
  have h10 : b10 = false := by cases b10; rfl; exact absurd (h.fl.2.2.1 rfl).2 (by simp)
  subst h10
  have h12 : b12 = false := by cases b12; rfl; exact absurd (h.fl.2.2.2 rfl).1 (by simp)
  subst h12
  refine ⟨⟨h.fl.1, by simp, by simp, by simp⟩, h.nz, h.below.alloc h.le _, fun q q' => ?_, fun q => ?_, fun _ _ => ⟨rfl, by simp, own_made w N _ 1 h.le⟩, by simp, by simp, fun q => ?_, fun q _ e => ?_, h.d2, fun _ q e => ?_⟩
  · obtain ⟨a, b, c⟩ := h.s1 q q'; exact ⟨a, b, own_same c fun g hg => alloc_at _ _ (own_lt c hg).2⟩
  · obtain ⟨a, b, c⟩ := h.s2 q; exact ⟨a, b, own_same c fun g hg => alloc_at _ _ (own_lt c hg).2⟩
  · obtain ⟨a, b, c⟩ := h.bx q; exact ⟨a, b, by rw [alloc_at _ _ (heap_lt c)]; exact c⟩
  · obtain ⟨g, e1, _, h3⟩ := h.str_lt q
    rw [e1] at e
    have : g = w.heap.size := by injection e
    omega
  · have h3 := heap_lt (h.bx q).2.2
    have : w.heap.size = B := by injection e
    omega
theorem CpI.step11 (h : CpI t w0 N b2 b5 b6 b9 b10 false b12 x3 x7 x10 x11 x14 x15 s r B w) :
    CpI t w0 N b2 b5 b6 b9 b10 true b12 (.pointer (some ⟨w.heap.size, 0, none⟩)) x7 x10 x11 x14 x15 s r w.heap.size (w.alloc (.cells tb0 26)) := by
  have h12 : b12 = false := by cases b12; rfl; exact absurd (h.fl.2.2.2 rfl).2 (by simp)
  subst h12
  refine ⟨⟨h.fl.1, h.fl.2.1, h.fl.2.2.1, by simp⟩, h.nz, h.below.alloc h.le _, fun q q' => ?_, fun q => ?_, fun q q' => ?_, fun q => ?_, h.k, fun _ => ⟨rfl, h.le, box_new w tb0 _⟩, h.d1, fun q _ e => ?_, fun q _ e => ?_⟩
  · obtain ⟨a, b, c⟩ := h.s1 q q'; exact ⟨a, b, own_same c fun g hg => alloc_at _ _ (own_lt c hg).2⟩
  · obtain ⟨a, b, c⟩ := h.s2 q; exact ⟨a, b, own_same c fun g hg => alloc_at _ _ (own_lt c hg).2⟩
  · obtain ⟨a, b, c⟩ := h.r1 q q'; exact ⟨a, b, own_same c fun g hg => alloc_at _ _ (own_lt c hg).2⟩
  · obtain ⟨a, b, c⟩ := h.r2 q; exact ⟨a, b, own_same c fun g hg => alloc_at _ _ (own_lt c hg).2⟩
  · obtain ⟨g, e1, _, h3⟩ := h.str_lt q
    rw [e1] at e
    have : g = w.heap.size := by injection e
    omega
  · obtain ⟨g, e1, _, h3⟩ := h.row_lt q
    rw [e1] at e
    have : g = w.heap.size := by injection e
    omega
theorem CpI.step5 (h : CpI t w0 N true false b6 b9 b10 b11 b12 x3 x7 x10 x11 x14 x15 s r B w) {v : Value} {w' : World}
    (k1 : w'.ownsRow N 9 1 v t.elems.length (t.elems.map .string)) (k2 : w.grownBy w' s.ownBlock) (k3 : v.ownBlock = s.ownBlock ∨ v.ownBlock = some w.heap.size) (k4 : v ≠ .slice none 0 0) :
    CpI t w0 N true true b6 b9 b10 b11 b12 x3 x7 v x11 x14 x15 v r B w' := by
  have h9 : b9 = false := by cases b9; rfl; exact absurd (h.fl.2.1 rfl).2 (by simp)
  subst h9
  have h10 : b10 = false := by cases b10; rfl; exact absurd (h.fl.2.2.1 rfl).1 (by simp)
  subst h10
  have h12 : b12 = false := by cases b12; rfl; exact absurd (h.fl.2.2.2 rfl).1 (by simp)
  subst h12
  obtain ⟨g, e1, hg1, hg2⟩ := h.str_lt rfl
  refine ⟨⟨by simp, by simp, by simp, by simp⟩, h.nz, h.below.grown k2 h.le (fun k hk => by rw [e1] at hk; cases hk; exact hg1), by simp, fun _ => ⟨rfl, k4, k1⟩, fun q q' => ?_, by simp, by simp, fun q => ?_, fun _ q e => ?_, fun _ q e => ?_, h.d3⟩
  · obtain ⟨a, b, c⟩ := h.r1 q q'
    exact ⟨a, b, own_same c fun g' hg' => k2.block g' (own_lt c hg').2 (fun e => h.d1 rfl q (by rw [hg', ← e]))⟩
  · obtain ⟨a, b, c⟩ := h.bx q
    exact ⟨a, b, by rw [k2.block B (heap_lt c) (fun e => h.d2 rfl q e.symm)]; exact c⟩
  · rcases k3 with k3 | k3
    · exact h.d1 rfl q (by rw [← k3]; exact e)
    · obtain ⟨g', e2, _, h3⟩ := h.row_lt q
      rw [k3, e2] at e
      have : w.heap.size = g' := by injection e
      omega
  · rcases k3 with k3 | k3
    · exact h.d2 rfl q (by rw [← k3]; exact e)
    · have h3 := heap_lt (h.bx q).2.2
      rw [k3] at e
      have : w.heap.size = B := by injection e
      omega
theorem CpI.step9 (h : CpI t w0 N b2 b5 true false b10 b11 b12 x3 x7 x10 x11 x14 x15 s r B w) (h5 : b5 = true) {v : Value} {w' : World}
    (k1 : w'.ownsRow N 4 1 v t.wrong.length (t.wrong.map .bool)) (k2 : w.grownBy w' r.ownBlock) (k3 : v.ownBlock = r.ownBlock ∨ v.ownBlock = some w.heap.size) (k4 : v ≠ .slice none 0 0) :
    CpI t w0 N b2 b5 true true b10 b11 b12 x3 x7 x10 x11 v x15 s v B w' := by
  have h10 : b10 = false := by cases b10; rfl; exact absurd (h.fl.2.2.1 rfl).2 (by simp)
  subst h10
  have h12 : b12 = false := by cases b12; rfl; exact absurd (h.fl.2.2.2 rfl).1 (by simp)
  subst h12
  subst h5
  obtain rfl := h.fl.1 rfl
  obtain ⟨g, e1, hg1, hg2⟩ := h.row_lt rfl
  refine ⟨⟨by simp, by simp, by simp, by simp⟩, h.nz, h.below.grown k2 h.le (fun k hk => by rw [e1] at hk; cases hk; exact hg1), by simp, fun q => ?_, by simp, fun _ => ⟨rfl, k4, k1⟩, by simp, fun q => ?_, fun q _ e => ?_, h.d2, fun _ q e => ?_⟩
  · obtain ⟨a, b, c⟩ := h.s2 q
    exact ⟨a, b, own_same c fun g' hg' => k2.block g' (own_lt c hg').2 (fun e => h.d1 rfl rfl (by rw [hg', ← e]))⟩
  · obtain ⟨a, b, c⟩ := h.bx q
    exact ⟨a, b, by rw [k2.block B (heap_lt c) (fun e => h.d3 rfl q e.symm)]; exact c⟩
  · rcases k3 with k3 | k3
    · exact h.d1 rfl rfl (by rw [← k3]; exact e)
    · obtain ⟨g', e2, _, h3⟩ := h.str_lt rfl
      rw [k3, e2] at e
      have : g' = w.heap.size := by injection e
      omega
  · rcases k3 with k3 | k3
    · exact h.d3 rfl q (by rw [← k3]; exact e)
    · have h3 := heap_lt (h.bx q).2.2
      rw [k3] at e
      have : w.heap.size = B := by injection e
      omega
theorem CpI.step10 (h : CpI t w0 N b2 b5 b6 b9 false b11 b12 x3 x7 x10 x11 x14 x15 s r B w) (h5 : b5 = true) (h9 : b9 = true) : CpI t w0 N b2 b5 b6 b9 true b11 b12 x3 x7 x10 x11 x14 (.agg #[.string t.name, x10, .slice none 0 0, x14]) s r B w :=
  ⟨⟨h.fl.1, h.fl.2.1, fun _ => ⟨h5, h9⟩, fun q => ⟨rfl, (h.fl.2.2.2 q).2⟩⟩, h.nz, h.below, h.s1, h.s2, h.r1, h.r2, fun _ => by rw [(h.s2 h5).1, (h.r2 h9).1], h.bx, h.d1, h.d2, h.d3⟩
theorem CpI.step12 (h : CpI t w0 N b2 b5 b6 b9 true true false x3 x7 x10 x11 x14 x15 s r B w) {w' : World} (k1 : w'.heap[B]? = some (.cells #[.string t.name, s, .slice none 0 0, r] 26 (0, 0))) (k2 : w.grownBy w' (some B)) :
    CpI t w0 N b2 b5 b6 b9 true true true x3 x7 x10 x11 x14 x15 s r B w' := by
  obtain ⟨h5, h9⟩ := h.fl.2.2.1 rfl
  subst h5 h9
  obtain rfl := h.fl.1 rfl
  obtain ⟨rfl, _⟩ := h.fl.2.1 rfl
  obtain ⟨e3, hb, _⟩ := h.bx rfl
  refine ⟨⟨by simp, by simp, by simp, by simp⟩, h.nz, h.below.grown k2 h.le (fun k hk => by cases hk; exact hb), by simp, fun q => ?_, by simp, fun q => ?_, h.k, fun q => ⟨e3, hb, k1⟩, h.d1, h.d2, h.d3⟩
  · obtain ⟨a, b, c⟩ := h.s2 q
    exact ⟨a, b, own_same c fun g' hg' => k2.block g' (own_lt c hg').2 (fun e => h.d2 rfl rfl (by rw [hg', ← e]))⟩
  · obtain ⟨a, b, c⟩ := h.r2 q
    exact ⟨a, b, own_same c fun g' hg' => k2.block g' (own_lt c hg').2 (fun e => h.d3 rfl rfl (by rw [hg', ← e]))⟩
end

/-- How far the copy's rows have come: vb the value in its box, v the list of them. -/
structure CpL (t : M.Tb) (w0 : World) (N : Nat) (s r : Value) (B : Nat) (rows : List (List Int)) (vb v : Value) (w : World) : Prop where
  nz : N ≤ w0.heap.size
  below : Below N w0 w
  sow : w.ownsRow N 9 1 s t.elems.length (t.elems.map .string)
  row : w.ownsRow N 4 1 r t.wrong.length (t.wrong.map .bool)
  hB : N ≤ B
  bx : w.heap[B]? = some (.cells #[.string t.name, s, vb, r] 26 (0, 0))
  d2 : s.ownBlock ≠ some B
  d3 : r.ownBlock ≠ some B
  nst : NestQ (fun b => b ≠ B ∧ N ≤ b) (Value.int .i64) w N 37 v rows
  e1 : ∀ g, v.ownBlock = some g → some g ≠ s.ownBlock ∧ some g ≠ r.ownBlock ∧ g ≠ B
theorem CpI.done {t : M.Tb} {w0 : World} {N : Nat} {x3 x7 x10 x11 x14 x15 s r : Value} {B : Nat} {w : World} (h : CpI t w0 N true true true true true true true x3 x7 x10 x11 x14 x15 s r B w) : CpL t w0 N s r B [] (.slice none 0 0) (.slice none 0 0) w :=
  ⟨h.nz, h.below, (h.s2 rfl).2.2, (h.r2 rfl).2.2, (h.bx rfl).2.1, (h.bx rfl).2.2, h.d2 rfl rfl, h.d3 rfl rfl, NestQ.nil _ _ _ _ _, fun g hg => by cases hg⟩
section
variable {t : M.Tb} {w0 : World} {N : Nat} {s r : Value} {B : Nat} {rows : List (List Int)} {vb v : Value} {w w' : World}
theorem nest_lt {α : Type} {ok : Nat → Prop} {f : α → Value} {w : World} {base : Nat} {e : TypeId} {v : Value} {rows : List (List α)} (h : NestQ ok f w base e v rows) {g : Nat} (hg : v.ownBlock = some g) : base ≤ g ∧ g < w.heap.size := by
  obtain ⟨_, h1, _⟩ := h
  exact own_lt h1 hg
theorem CpL.le (h : CpL t w0 N s r B rows vb v w) : N ≤ w.heap.size := Nat.le_trans h.nz h.below.size
theorem CpL.keep (h : CpL t w0 N s r B rows vb v w) (hsz : w.heap.size ≤ w'.heap.size) (hB : Below N w0 w') (hk : ∀ k, k < w.heap.size → w'.heap[k]? = w.heap[k]?) : CpL t w0 N s r B rows vb v w' :=
  ⟨h.nz, hB, own_same h.sow fun g hg => hk g (own_lt h.sow hg).2, own_same h.row fun g hg => hk g (own_lt h.row hg).2, h.hB, by rw [hk B (heap_lt h.bx)]; exact h.bx, h.d2, h.d3,
    h.nst.kept hsz (fun g hg => hk g (nest_lt h.nst hg).2) (fun b hb _ => hk b hb), h.e1⟩
/-- Behind what lays new blocks alone. -/
theorem CpL.new (h : CpL t w0 N s r B rows vb v w) (hb : Below w.heap.size w w') : CpL t w0 N s r B rows vb v w' := h.keep hb.size (h.below.trans (hb.mono h.le)) hb.block
theorem CpL.push (h : CpL t w0 N s r B rows vb v w) {l : List Int} {g n c : Nat} (hn : NestQ (fun b => b ≠ B ∧ N ≤ b) (Value.int .i64) w' N 37 (.slice (some ⟨g, 0, none⟩) n c) (rows ++ [l])) (hg : w.grownBy w' v.ownBlock) (hb : some g = v.ownBlock ∨ g = w.heap.size) :
    CpL t w0 N s r B (rows ++ [l]) vb (.slice (some ⟨g, 0, none⟩) n c) w' := by
  have hk : ∀ k, k < w.heap.size → some k ≠ v.ownBlock → w'.heap[k]? = w.heap[k]? := hg.block
  refine ⟨h.nz, h.below.grown hg h.le (fun k hk => (nest_lt h.nst hk).1), own_same h.sow fun g' hg' => hk g' (own_lt h.sow hg').2 (fun e => (h.e1 g' e.symm).1 hg'.symm), own_same h.row fun g' hg' => hk g' (own_lt h.row hg').2 (fun e => (h.e1 g' e.symm).2.1 hg'.symm),
    h.hB, by rw [hk B (heap_lt h.bx) (fun e => (h.e1 B e.symm).2.2 rfl)]; exact h.bx, h.d2, h.d3, hn, fun g' hg' => ?_⟩
  have e : g = g' := by injection hg'
  subst e
  rcases hb with q | q
  · exact h.e1 g q.symm
  · refine ⟨fun e => ?_, fun e => ?_, fun e => ?_⟩
    · have := (own_lt h.sow e.symm).2; omega
    · have := (own_lt h.row e.symm).2; omega
    · have := heap_lt h.bx; omega
theorem CpL.set (h : CpL t w0 N s r B rows vb v w) : CpL t w0 N s r B rows v v (w.setCell ⟨B, 2, none⟩ v) := by
  have hg := grown_set w B 2 v
  refine ⟨h.nz, h.below.grown hg h.le (fun k hk => by cases hk; exact h.hB), own_same h.sow fun g hg' => hg.block g (own_lt h.sow hg').2 (fun e => h.d2 (by rw [hg', e])), own_same h.row fun g hg' => hg.block g (own_lt h.row hg').2 (fun e => h.d3 (by rw [hg', e])),
    h.hB, by rw [heap_set_same h.bx]; rfl, h.d2, h.d3, h.nst.kept hg.size (fun g hg' => hg.block g (nest_lt h.nst hg').2 (fun e => (h.e1 g hg').2.2 (by injection e))) (fun b hb hok => hg.block b hb (fun e => hok.1 (by injection e))), h.e1⟩
theorem own_cel_at {α : Type} {f : α → Value} {w : World} {base : Nat} {e : TypeId} {ea : Option Addr} {ec : Nat} {l : List α} (h : w.ownsRow base e 1 (.slice ea l.length ec) l.length (l.map f)) : CelSl f w ea l := by
  obtain ⟨a, c, e, _, _, q⟩ := own_cel h
  have e1 : ea = a := by injection e
  subst e1
  exact q
theorem nest_row_at {w : World} {base : Nat} {e : TypeId} {g n c : Nat} {rows : List (List Int)} (h : NestOwn (Value.int .i64) w base e (.slice (some ⟨g, 0, none⟩) n c) rows) : RowAt w g 0 rows := by
  rcases h.lies with ⟨h, _⟩ | ⟨g', c', h, _, _, q⟩
  · cases h
  · have e1 : g = g' := by injection h with e; injection e with e; injection e
    subst e1
    exact q.row
theorem CpL.table (h : CpL t w0 N s r B t.above v v w) : ∃ p', w.heap[B]? = some (.cells (tbA t p') 26 (0, 0)) ∧ ∀ w', w.heap.size ≤ w'.heap.size → (∀ g, N ≤ g → g < w.heap.size → w'.heap[g]? = w.heap[g]?) → TbIn w' t p' := by
  have hs := h.sow
  have hr := h.row
  have hn := h.nst
  have hbx := h.bx
  obtain ⟨ea, ec, rfl, en, el, _⟩ := own_cel h.sow
  obtain ⟨wa, wc, rfl, wn, wl, _⟩ := own_cel h.row
  rcases h.nst.own.lies with ⟨rfl, h0⟩ | ⟨g, c, rfl, hl, _, hat⟩
  · refine ⟨⟨ea, ec, none, 0, wa, wc⟩, by rw [hbx]; simp [h0], fun w' hsz hk => ⟨?_, Or.inl h0, ?_, en, fun _ => rfl, wn, el, by rw [h0]; exact Nat.le_refl 0, wl⟩⟩
    · exact own_cel_at (own_same hs fun g hg => hk g (own_lt hs hg).1 (own_lt hs hg).2)
    · exact own_cel_at (own_same hr fun g hg => hk g (own_lt hr hg).1 (own_lt hr hg).2)
  · refine ⟨⟨ea, ec, some ⟨g, 0, none⟩, c, wa, wc⟩, hbx, fun w' hsz hk => ⟨?_, Or.inr ⟨g, 0, rfl, ?_⟩, ?_, en, fun h => (by cases h), wn, el, hl, wl⟩⟩
    · exact own_cel_at (own_same hs fun g hg => hk g (own_lt hs hg).1 (own_lt hs hg).2)
    · exact nest_row_at (hn.kept hsz (fun g hg => hk g (nest_lt hn hg).1 (nest_lt hn hg).2) (fun b hb hok => hk b hok.2 hb)).own
    · exact own_cel_at (own_same hr fun g hg => hk g (own_lt hr hg).1 (own_lt hr hg).2)
end
/-- A table whose Above is the call's own: its list of lists may be written. -/
structure TbOwn (N : Nat) (w : World) (t : M.Tb) (p : Tp) : Prop where
  tb : TbIn w t p
  low : ∀ b off, p.ea = some ⟨b, off, none⟩ ∨ p.wa = some ⟨b, off, none⟩ → N ≤ b ∧ b < w.heap.size
  own : t.above = [] ∨ ∃ g vals, p.aa = some ⟨g, 0, none⟩ ∧ w.ownsRow N 37 1 (.slice (some ⟨g, 0, none⟩) t.above.length p.ac) t.above.length vals ∧
    (∀ b off, p.ea = some ⟨b, off, none⟩ ∨ p.wa = some ⟨b, off, none⟩ → b ≠ g) ∧
    ∀ i, (h : i < t.above.length) → ∃ a c, vals[i]? = some (.slice a t.above[i].length c) ∧ (a = none → c = 0) ∧ t.above[i].length ≤ c ∧ (t.above[i] = [] ∨ ∃ b off, a = some ⟨b, off, none⟩ ∧ b ≠ g ∧ N ≤ b ∧ CelAt (Value.int .i64) w b off t.above[i])
theorem TbOwn.mono {N N' : Nat} {w : World} {t : M.Tb} {p : Tp} (h : TbOwn N w t p) (hN : N' ≤ N) : TbOwn N' w t p := by
  refine ⟨h.tb, fun b off q => ⟨Nat.le_trans hN (h.low b off q).1, (h.low b off q).2⟩, ?_⟩
  rcases h.own with q | ⟨g, vals, q1, q2, q3, q4⟩
  · exact Or.inl q
  · refine Or.inr ⟨g, vals, q1, own_base q2 hN, q3, fun i hi => ?_⟩
    obtain ⟨a, c, k1, k2, k3, k4⟩ := q4 i hi
    refine ⟨a, c, k1, k2, k3, ?_⟩
    rcases k4 with k | ⟨b, off, r1, r2, r3, r4⟩
    · exact Or.inl k
    · exact Or.inr ⟨b, off, r1, r2, Nat.le_trans hN r3, r4⟩
theorem CpL.owned {t : M.Tb} {w0 : World} {N : Nat} {s r : Value} {B : Nat} {v : Value} {w : World} (h : CpL t w0 N s r B t.above v v w) : ∃ p', w.heap[B]? = some (.cells (tbA t p') 26 (0, 0)) ∧ ∀ w', w.heap.size ≤ w'.heap.size → (∀ g, N ≤ g → g < w.heap.size → w'.heap[g]? = w.heap[g]?) → TbOwn N w' t p' := by
  have hs := h.sow
  have hr := h.row
  have hn := h.nst
  have he := h.e1
  obtain ⟨p', hb, ht⟩ := h.table
  refine ⟨p', hb, fun w' hsz hk => ?_⟩
  have hbx := h.bx
  rw [hb] at hbx
  have hcs : tbA t p' = #[.string t.name, s, v, r] := by injection hbx with e; injection e
  have hcl : (tbA t p').toList = [.string t.name, s, v, r] := by rw [hcs]
  simp only [List.cons.injEq, and_true] at hcl
  obtain ⟨_, e1, e2, e3⟩ := hcl
  have hlow : ∀ b off, p'.ea = some ⟨b, off, none⟩ ∨ p'.wa = some ⟨b, off, none⟩ → (s.ownBlock = some b ∨ r.ownBlock = some b) := by
    rintro b off (q | q)
    · left; rw [← e1, q]; rfl
    · right; rw [← e3, q]; rfl
  refine ⟨ht w' hsz hk, fun b off q => ?_, ?_⟩
  · rcases hlow b off q with q | q
    · obtain ⟨k1, k2⟩ := own_lt hs q; exact ⟨k1, Nat.lt_of_lt_of_le k2 hsz⟩
    · obtain ⟨k1, k2⟩ := own_lt hr q; exact ⟨k1, Nat.lt_of_lt_of_le k2 hsz⟩
  · have hn2 := hn.kept hsz (fun g hg => hk g (nest_lt hn hg).1 (nest_lt hn hg).2) (fun b hb hok => hk b hok.2 hb)
    obtain ⟨vals, k1, k2⟩ := hn2
    rcases k1.2 with ⟨rfl, h0⟩ | ⟨g, cap, cur, ev, _, _⟩
    · exact Or.inl (List.length_eq_zero_iff.1 h0)
    · right
      rw [ev] at e2
      have e4 : p'.aa = some ⟨g, 0, none⟩ ∧ p'.ac = cap := by
        injection e2 with a1 a2 a3; exact ⟨a1, a3⟩
      refine ⟨g, vals, e4.1, ?_, fun b off q e => ?_, fun i hi => ?_⟩
      · rw [e4.2, ← ev]; exact k1
      · subst e
        have hg := he b (by rw [ev]; rfl)
        rcases hlow b off q with q | q
        · exact hg.1 q.symm
        · exact hg.2.1 q.symm
      · obtain ⟨a, c, q1, q2, q3, q4⟩ := k2 i hi
        refine ⟨a, c, q1, q2, q3, ?_⟩
        rcases q4 with q | ⟨b, off, r1, r2, r3, r4⟩
        · exact Or.inl q
        · exact Or.inr ⟨b, off, r1, fun e => r2 (by rw [ev, e]; rfl), r3.2, r4⟩
end Go.Proofs.Ytnhnjfoboepffaa

namespace Go.Proofs.Ytnhnjfoboepffaa
open Go.RowKit

abbrev intCs (l : List Int) : List Value := l.map (Value.int .i64)
structure CpJ (t : M.Tb) (w0 : World) (N : Nat) (s r : Value) (B : Nat) (rows : List (List Int)) (vb : Value) (l : List Int) (wr : World) (b1 b2 b8 b9 b10 b11 b12 : Bool) (x24 x25 x31 x32 x33 x34 : Value) (W : World) : Prop where
  fl : (b8 = true → b2 = true) ∧ (b9 = true → b8 = true) ∧ (b10 = true → b9 = true ∧ b1 = true) ∧ (b11 = true → b10 = true) ∧ (b12 = true → b11 = true)
  at_ : CpL t w0 N s r B rows vb vb wr
  bel : b10 = false → Below wr.heap.size wr W
  k1 : b1 = true → x24 = vb
  k2 : b2 = true → b8 = false → x25 ≠ .slice none 0 0 ∧ W.ownsRow wr.heap.size 3 1 x25 ([] : List Int).length (intCs [])
  k8 : b8 = true → b9 = false → W.ownsRow wr.heap.size 3 1 x31 l.length (intCs l)
  k9 : b9 = true → b10 = false → ∃ g ra rc, x32 = .slice (some ⟨g, 0, none⟩) 1 1 ∧ W.cell? ⟨g, 0, none⟩ = some (.slice ra l.length rc) ∧ (ra = none → rc = 0) ∧ l.length ≤ rc ∧ (l = [] ∨ ∃ b off, ra = some ⟨b, off, none⟩ ∧ wr.heap.size ≤ b ∧ CelAt (Value.int .i64) W b off l)
  k10 : b10 = true → b12 = false → CpL t w0 N s r B (rows ++ [l]) vb x33 W
  k11 : b11 = true → x34 = .pointer (some ⟨B, 2, none⟩)
  k12 : b12 = true → CpL t w0 N s r B (rows ++ [l]) x33 x33 W
section
variable {t : M.Tb} {w0 : World} {N : Nat} {s r : Value} {B : Nat} {rows : List (List Int)} {vb : Value} {l : List Int} {wr : World} {b1 b2 b8 b9 b10 b11 b12 : Bool} {x24 x25 x31 x32 x33 x34 : Value} {W : World}
theorem CpJ.below (h : CpJ t w0 N s r B rows vb l wr b1 b2 b8 b9 b10 b11 b12 x24 x25 x31 x32 x33 x34 W) : Below N w0 W := by
  cases hb : b10 with
  | false => exact (h.at_.new (h.bel hb)).below
  | true =>
    cases hc : b12 with
    | false => exact (h.k10 hb hc).below
    | true => exact (h.k12 hc).below
theorem CpJ.start (h : CpL t w0 N s r B rows vb vb wr) : CpJ t w0 N s r B rows vb l wr false false false false false false false x24 x25 x31 x32 x33 x34 wr :=
  ⟨⟨by simp, by simp, by simp, by simp, by simp⟩, h, fun _ => Below.refl _ _, by simp, by simp, by simp, by simp, by simp, by simp, by simp⟩
theorem CpJ.no10 (h : CpJ t w0 N s r B rows vb l wr b1 b2 b8 b9 b10 b11 b12 x24 x25 x31 x32 x33 x34 W) (h1 : b1 = false ∨ b9 = false) : b10 = false := by
  cases hb : b10 with
  | false => rfl
  | true =>
    obtain ⟨q1, q2⟩ := h.fl.2.2.1 hb
    rcases h1 with e | e
    · rw [e] at q2; cases q2
    · rw [e] at q1; cases q1
theorem CpJ.cell (h : CpJ t w0 N s r B rows vb l wr false b2 b8 b9 b10 b11 b12 x24 x25 x31 x32 x33 x34 W) : W.cell? ⟨B, 2, none⟩ = some vb := by
  rw [Lib.cell_of_heap (h.at_.new (h.bel (h.no10 (Or.inl rfl)))).bx]; rfl
theorem CpJ.step1 (h : CpJ t w0 N s r B rows vb l wr false b2 b8 b9 b10 b11 b12 x24 x25 x31 x32 x33 x34 W) : CpJ t w0 N s r B rows vb l wr true b2 b8 b9 b10 b11 b12 vb x25 x31 x32 x33 x34 W :=
  ⟨⟨h.fl.1, h.fl.2.1, fun q => ⟨(h.fl.2.2.1 q).1, rfl⟩, h.fl.2.2.2⟩, h.at_, h.bel, fun _ => rfl, h.k2, h.k8, h.k9, h.k10, h.k11, h.k12⟩
theorem CpJ.no8 (h : CpJ t w0 N s r B rows vb l wr b1 false b8 b9 b10 b11 b12 x24 x25 x31 x32 x33 x34 W) : b8 = false ∧ b9 = false ∧ b10 = false ∧ b11 = false ∧ b12 = false := by
  have h8 : b8 = false := by cases hb : b8; rfl; exact absurd (h.fl.1 hb) (by simp)
  have h9 : b9 = false := by cases hb : b9; rfl; exact absurd (h.fl.2.1 hb) (by simp [h8])
  have h10 : b10 = false := h.no10 (Or.inr h9)
  have h11 : b11 = false := by cases hb : b11; rfl; exact absurd (h.fl.2.2.2.1 hb) (by simp [h10])
  have h12 : b12 = false := by cases hb : b12; rfl; exact absurd (h.fl.2.2.2.2 hb) (by simp [h11])
  exact ⟨h8, h9, h10, h11, h12⟩
theorem CpJ.step2 (h : CpJ t w0 N s r B rows vb l wr b1 false b8 b9 b10 b11 b12 x24 x25 x31 x32 x33 x34 W) :
    CpJ t w0 N s r B rows vb l wr b1 true b8 b9 b10 b11 b12 x24 (.slice (some ⟨W.heap.size, 0, none⟩) 0 0) x31 x32 x33 x34 (W.alloc (.cells #[] 3)) := by
  obtain ⟨rfl, rfl, rfl, rfl, rfl⟩ := h.no8
  have hb := h.bel rfl
  exact ⟨⟨by simp, by simp, by simp, by simp, by simp⟩, h.at_, fun _ => belowA hb _, h.k1, fun _ _ => ⟨by simp, own_made W wr.heap.size _ 1 hb.size⟩, by simp, by simp, by simp, by simp, by simp⟩
theorem CpJ.no9 (h : CpJ t w0 N s r B rows vb l wr b1 b2 false b9 b10 b11 b12 x24 x25 x31 x32 x33 x34 W) : b9 = false ∧ b10 = false ∧ b11 = false ∧ b12 = false := by
  have h9 : b9 = false := by cases hb : b9; rfl; exact absurd (h.fl.2.1 hb) (by simp)
  have h10 : b10 = false := h.no10 (Or.inr h9)
  have h11 : b11 = false := by cases hb : b11; rfl; exact absurd (h.fl.2.2.2.1 hb) (by simp [h10])
  have h12 : b12 = false := by cases hb : b12; rfl; exact absurd (h.fl.2.2.2.2 hb) (by simp [h11])
  exact ⟨h9, h10, h11, h12⟩
theorem CpJ.step8 (h : CpJ t w0 N s r B rows vb l wr b1 true false b9 b10 b11 b12 x24 x25 x31 x32 x33 x34 W) {v : Value} {w' : World} (q1 : w'.ownsRow wr.heap.size 3 1 v ([] ++ l).length (([] ++ l).map (Value.int .i64))) (q2 : W.grownBy w' x25.ownBlock) :
    CpJ t w0 N s r B rows vb l wr b1 true true b9 b10 b11 b12 x24 x25 v x32 x33 x34 w' := by
  obtain ⟨rfl, rfl, rfl, rfl⟩ := h.no9
  have hb := h.bel rfl
  obtain ⟨_, k2⟩ := h.k2 rfl rfl
  exact ⟨⟨by simp, by simp, by simp, by simp, by simp⟩, h.at_, fun _ => hb.grown q2 hb.size (fun g hg => (own_lt k2 hg).1), h.k1, by simp, fun _ _ => q1, by simp, by simp, by simp, by simp⟩
theorem CpJ.no10' (h : CpJ t w0 N s r B rows vb l wr b1 b2 b8 false b10 b11 b12 x24 x25 x31 x32 x33 x34 W) : b10 = false ∧ b11 = false ∧ b12 = false := by
  have h10 : b10 = false := h.no10 (Or.inr rfl)
  have h11 : b11 = false := by cases hb : b11; rfl; exact absurd (h.fl.2.2.2.1 hb) (by simp [h10])
  have h12 : b12 = false := by cases hb : b12; rfl; exact absurd (h.fl.2.2.2.2 hb) (by simp [h11])
  exact ⟨h10, h11, h12⟩
theorem CpJ.step9 (h : CpJ t w0 N s r B rows vb l wr b1 b2 true false b10 b11 b12 x24 x25 x31 x32 x33 x34 W) :
    CpJ t w0 N s r B rows vb l wr b1 b2 true true b10 b11 b12 x24 x25 x31 (.slice (some ⟨W.heap.size, 0, none⟩) 1 1) x33 x34 (W.alloc (.cells #[x31] 37)) := by
  obtain ⟨rfl, rfl, rfl⟩ := h.no10'
  have hb := h.bel rfl
  have k8 := h.k8 rfl rfl
  have hlow := fun g (hg : x31.ownBlock = some g) => (own_lt k8 hg).1
  obtain ⟨ra, rc, rfl, q1, q2, q3⟩ := own_cel k8
  refine ⟨⟨h.fl.1, by simp, by simp, by simp, by simp⟩, h.at_, fun _ => belowA hb _, h.k1, by simp, by simp, fun _ _ => ⟨W.heap.size, ra, rc, rfl, World.cell?_alloc_at _ _ _ _ rfl, q1, q2, ?_⟩, by simp, by simp, by simp⟩
  rcases q3 with q | ⟨b, off, e, hc⟩
  · exact Or.inl q
  · exact Or.inr ⟨b, off, e, hlow b (by rw [e]; rfl), hc.below (below1 _ _)⟩
theorem CpJ.no11 (h : CpJ t w0 N s r B rows vb l wr b1 b2 b8 b9 false b11 b12 x24 x25 x31 x32 x33 x34 W) : b11 = false ∧ b12 = false := by
  have h11 : b11 = false := by cases hb : b11; rfl; exact absurd (h.fl.2.2.2.1 hb) (by simp)
  have h12 : b12 = false := by cases hb : b12; rfl; exact absurd (h.fl.2.2.2.2 hb) (by simp [h11])
  exact ⟨h11, h12⟩
/-- What the second append of a round wants. -/
theorem CpJ.for10 (h : CpJ t w0 N s r B rows vb l wr true b2 b8 true false b11 b12 x24 x25 x31 x32 x33 x34 W) :
    x24 = vb ∧ NestQ (fun b => b ≠ B ∧ N ≤ b) (Value.int .i64) W N 37 vb rows ∧ N ≤ W.heap.size ∧ ∃ g ra rc, x32 = .slice (some ⟨g, 0, none⟩) 1 1 ∧ W.cell? ⟨g, 0, none⟩ = some (.slice ra l.length rc) ∧ (ra = none → rc = 0) ∧ l.length ≤ rc ∧ (l = [] ∨ ∃ b off, ra = some ⟨b, off, none⟩ ∧ some b ≠ vb.ownBlock ∧ (b ≠ B ∧ N ≤ b) ∧ CelAt (Value.int .i64) W b off l) := by
  have hb := h.bel rfl
  have hL := h.at_.new hb
  obtain ⟨g, ra, rc, e, q1, q2, q3, q4⟩ := h.k9 rfl rfl
  refine ⟨h.k1 rfl, hL.nst, hL.le, g, ra, rc, e, q1, q2, q3, ?_⟩
  rcases q4 with q | ⟨b, off, e, hlo, hc⟩
  · exact Or.inl q
  · refine Or.inr ⟨b, off, e, fun e' => ?_, ⟨fun e' => ?_, Nat.le_trans h.at_.le hlo⟩, hc⟩
    · have := (nest_lt h.at_.nst e'.symm).2; omega
    · have := heap_lt h.at_.bx; omega
theorem CpJ.step10 (h : CpJ t w0 N s r B rows vb l wr true b2 b8 true false b11 b12 x24 x25 x31 x32 x33 x34 W) {g n c : Nat} {w' : World} (hn : NestQ (fun b => b ≠ B ∧ N ≤ b) (Value.int .i64) w' N 37 (.slice (some ⟨g, 0, none⟩) n c) (rows ++ [l])) (hg : W.grownBy w' vb.ownBlock) (hb : some g = vb.ownBlock ∨ g = W.heap.size) :
    CpJ t w0 N s r B rows vb l wr true b2 b8 true true b11 b12 x24 x25 x31 x32 (.slice (some ⟨g, 0, none⟩) n c) x34 w' := by
  obtain ⟨rfl, rfl⟩ := h.no11
  exact ⟨⟨h.fl.1, h.fl.2.1, by simp, by simp, by simp⟩, h.at_, by simp, h.k1, fun q q' => absurd (h.fl.2.1 rfl) (by simp [q']), by simp, by simp, fun _ _ => (h.at_.new (h.bel rfl)).push hn hg hb, by simp, by simp⟩
theorem CpJ.step11 (h : CpJ t w0 N s r B rows vb l wr b1 b2 b8 b9 true false b12 x24 x25 x31 x32 x33 x34 W) : CpJ t w0 N s r B rows vb l wr b1 b2 b8 b9 true true b12 x24 x25 x31 x32 x33 (.pointer (some ⟨B, 2, none⟩)) W :=
  ⟨⟨h.fl.1, h.fl.2.1, h.fl.2.2.1, by simp, by simp⟩, h.at_, h.bel, h.k1, h.k2, h.k8, h.k9, h.k10, fun _ => rfl, h.k12⟩
theorem CpJ.for12 (h : CpJ t w0 N s r B rows vb l wr b1 b2 b8 b9 true true false x24 x25 x31 x32 x33 x34 W) : x34 = .pointer (some ⟨B, 2, none⟩) ∧ W.cell? ⟨B, 2, none⟩ = some vb ∧ W.frozen? ⟨B, 2, none⟩ = false ∧ ∃ a n c, x33 = .slice a n c := by
  have hL := h.k10 rfl rfl
  obtain ⟨a, c, e⟩ := hL.nst.slice
  exact ⟨h.k11 rfl, by rw [Lib.cell_of_heap hL.bx]; rfl, by simp [World.frozen?, hL.bx], a, _, c, e⟩
theorem CpJ.step12 (h : CpJ t w0 N s r B rows vb l wr b1 b2 b8 b9 true true false x24 x25 x31 x32 x33 x34 W) : CpJ t w0 N s r B rows vb l wr b1 b2 b8 b9 true true true x24 x25 x31 x32 x33 x34 (W.setCell ⟨B, 2, none⟩ x33) :=
  ⟨⟨h.fl.1, h.fl.2.1, h.fl.2.2.1, by simp, by simp⟩, h.at_, by simp, h.k1, fun q q' => absurd (h.fl.2.1 (h.fl.2.2.1 rfl).1) (by simp [q']), fun _ q => absurd (h.fl.2.2.1 rfl).1 (by simp [q]), by simp, by simp, h.k11, fun _ => (h.k10 rfl rfl).set⟩
end
end Go.Proofs.Ytnhnjfoboepffaa
