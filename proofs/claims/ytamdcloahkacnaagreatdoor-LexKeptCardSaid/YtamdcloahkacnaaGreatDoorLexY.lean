/- DERIVED. Contracts of layer 1: how many tokens stay. -/
import Derived.Test.YtamdcloahkacnaaGreatDoorLexX
namespace Go.Proofs.YtamdcloahkacnaaGreatDoor
open Go.RowKit Go.WideMaps Go.Maps Go.Shelf

namespace M
def eqLx (a b : Lx) : Bool := decide (a.kind = b.kind ∧ a.text.data.toList = b.text.data.toList ∧ a.pos = b.pos)
def headP (x : Ed) (now : List Lx) (i : Nat) (t : Lx) : Bool := decide (t.pos < x.from_) && (match now[i]? with | some y => eqLx y t | none => false)
def head (x : Ed) (old now : List Lx) : Nat := leadI (headP x now) 0 old
def tailP (x : Ed) (d : Int) (last : List Lx) (i : Nat) (t : Lx) : Bool := decide (x.to_ ≤ t.pos) && (match last[i]? with | some y => eqLx y (moved t d) | none => false)
def tail (x : Ed) (d : Int) (old now : List Lx) : Nat := leadI (tailP x d now.reverse) 0 old.reverse
end M

theorem fields_lx : Tryz.prog.underlying 42 = some (.struct (Tryz.prog.fieldsOf 42)) := by kernel_rfl
theorem stood_lx : Tryz.prog.stoodInHeld 42 = false := by kernel_rfl
set_option maxHeartbeats 1000000 in
set_option maxRecDepth 100000 in
theorem eqLx_run (x y : M.Lx) (w : World) : (Op.equalIn 10000 42 (lxV x) (lxV y)).run Tryz.prog w = .ok (M.eqLx x y) w := by
  have u5 := Tryz.underlying5
  have a5 := Tryz.isAgg5
  have z5 := Tryz.sizeOf5
  have u3 := Tryz.underlying3
  have a3 := Tryz.isAgg3
  have z3 := Tryz.sizeOf3
  have u9 := Tryz.underlying9
  have a9 := Tryz.isAgg9
  have z9 := Tryz.sizeOf9
  rw [show (10000 : Nat) = 9999 + 1 from rfl, run_equalIn_agg w 9999 42 _ _ fields_lx stood_lx]
  simp only [Program.fieldsOf, Tryz.underlying42]
  go_simp
  unfold M.eqLx
  rw [← ByteArray.toList_eq x.text, ← ByteArray.toList_eq y.text]
  by_cases h1 : x.kind = y.kind <;> by_cases h2 : x.text.toList = y.text.toList <;> by_cases h3 : x.pos = y.pos <;> simp [h1, h2, h3]

theorem enters_head1 : ∀ args w, (callFunc 38 args).run Tryz.prog w = .ok (.enter 38 args) w := enters_of Tryz.func38 (by kernel_rfl) rfl
theorem enters_tail1 : ∀ args w, (callFunc 40 args).run Tryz.prog w = .ok (.enter 40 args) w := enters_of Tryz.func40 (by kernel_rfl) rfl

/-- An edited as it lies in memory. -/
def EdtAt (w : World) (b : Nat) (x : M.Ed) (s t : ByteArray) : Prop :=
  w.cell? ⟨b, 0, none⟩ = some (.int .i64 x.from_) ∧ w.cell? ⟨b, 1, none⟩ = some (.int .i64 x.to_) ∧ w.cell? ⟨b, 2, none⟩ = some (.string x.put) ∧ w.cell? ⟨b, 3, none⟩ = some (.string s) ∧ w.cell? ⟨b, 4, none⟩ = some (.string t)

set_option maxHeartbeats 1000000 in
set_option maxRecDepth 100000 in
theorem head1_any (i : Nat) (t : M.Lx) (b d : Nat) (x : M.Ed) (s u : ByteArray) (a : Option Addr) (c : Nat) (now : List M.Lx) (w : World) (hx : EdtAt w b x s u) (hd : w.cell? ⟨d, 0, none⟩ = some (.slice a now.length c)) (hn : LxSl w a now) :
    Calls Tryz.prog 38 #[.int .i64 i, lxV t, .pointer (some ⟨b, 0, none⟩), .pointer (some ⟨d, 0, none⟩)] w fun e w' => e = .returned (.bool (M.headP x now i t)) ∧ Below w.heap.size w w' := by
  obtain ⟨x0, x1, x2, x3, x4⟩ := hx
  have hb : b < w.heap.size := World.block_lt_of_cell? w ⟨b, 0, none⟩ x0
  have hdl : d < w.heap.size := World.block_lt_of_cell? w ⟨d, 0, none⟩ hd
  by_cases h1 : t.pos < x.from_
  · have d1 : decide (t.pos < x.from_) = true := by simpa using h1
    by_cases h2 : i < now.length
    · have d2 : decide ((i : Int) < (now.length : Int)) = true := by simp; omega
      obtain ⟨nb, off, rfl, ha⟩ := hn.at h2
      have c0 := ha.c0 i h2
      have c1 := ha.c1 i h2
      have c2 := ha.c2 i h2
      have hnb := ha.lt
      have hq := fun W => eqLx_run now[i] t W
      have n1 : (i : Int) < (now.length : Int) := by omega
      have n2 : (0 : Int) ≤ (i : Int) := by omega
      have hres : M.headP x now i t = M.eqLx now[i] t := by unfold M.headP; rw [d1, List.getElem?_eq_getElem h2]; rfl
      have HRES := Lib.hid hres
      clear hres hn ha
      go_enter Tryz.func38, Tryz.ntmps38
      go_wp2_with fail
      go_quiet (fail)
      go_wp2_with fail
      go_ret
      exact ⟨ret_bool HRES.out.symm, belowN (below1 w _) _⟩
    · have d2 : decide ((i : Int) < (now.length : Int)) = false := by simp; omega
      have hres : M.headP x now i t = false := by unfold M.headP; rw [List.getElem?_eq_none (by omega)]; simp
      have HRES := Lib.hid hres
      clear hres hn
      go_enter Tryz.func38, Tryz.ntmps38
      go_wp2_with fail
      go_quiet (fail)
      go_wp2_with fail
      go_ret
      exact ⟨ret_bool HRES.out.symm, belowN (below1 w _) _⟩
  · have d1 : decide (t.pos < x.from_) = false := by simpa using h1
    have hres : M.headP x now i t = false := by unfold M.headP; rw [d1]; rfl
    have HRES := Lib.hid hres
    clear hres hn
    go_enter Tryz.func38, Tryz.ntmps38
    go_wp2_with fail
    go_quiet (fail)
    go_wp2_with fail
    go_ret
    exact ⟨ret_bool HRES.out.symm, belowN (below1 w _) _⟩


/-- What the closure of 'tail' reads, in a world like the one where it began. -/
abbrev TailS (b d nb o tb : Nat) (x : M.Ed) (s u : ByteArray) (a : Value) (y t : M.Lx) (W0 W : World) : Prop :=
  W.cell? ⟨b, 0, none⟩ = some (.int .i64 x.from_) ∧ W.cell? ⟨b, 1, none⟩ = some (.int .i64 x.to_) ∧ W.cell? ⟨b, 2, none⟩ = some (.string x.put) ∧ W.cell? ⟨b, 3, none⟩ = some (.string s) ∧ W.cell? ⟨b, 4, none⟩ = some (.string u) ∧
  W.cell? ⟨d, 0, none⟩ = some a ∧ W.cell? ⟨nb, o, none⟩ = some (.int .u8 y.kind) ∧ W.cell? ⟨nb, o + 1, none⟩ = some (.string y.text) ∧ W.cell? ⟨nb, o + 2, none⟩ = some (.int .i64 y.pos) ∧
  W.cell? ⟨tb, 0, none⟩ = some (.int .u8 t.kind) ∧ W.cell? ⟨tb, 1, none⟩ = some (.string t.text) ∧ W.cell? ⟨tb, 2, none⟩ = some (.int .i64 t.pos) ∧ Below W0.heap.size W0 W
theorem TailS.below {b d nb o tb : Nat} {x : M.Ed} {s u : ByteArray} {a : Value} {y t : M.Lx} {W0 W W' : World} (h : TailS b d nb o tb x s u a y t W0 W) (hB : Below W.heap.size W W') : TailS b d nb o tb x s u a y t W0 W' := by
  obtain ⟨h0, h1, h2, h3, h4, h5, h6, h7, h8, h9, h10, h11, h12⟩ := h
  have k : ∀ {p : Addr} {v : Value}, W.cell? p = some v → W'.cell? p = some v := fun {p v} hp => by rw [hB.cell (World.block_lt_of_cell? W p hp)]; exact hp
  exact ⟨k h0, k h1, k h2, k h3, k h4, k h5, k h6, k h7, k h8, k h9, k h10, k h11, below2 h12 hB⟩

set_option maxHeartbeats 2000000 in
set_option maxRecDepth 100000 in
theorem tail1_any (i : Nat) (t : M.Lx) (b d : Nat) (x : M.Ed) (s u : ByteArray) (a : Option Addr) (c : Nat) (last : List M.Lx) (w : World) (hx : EdtAt w b x s u) (hd : w.cell? ⟨d, 0, none⟩ = some (.slice a last.length c)) (hn : LxSl w a last)
    (hs : s.size ≤ 1000000) (hu : u.size ≤ 1000000) (ht0 : 0 ≤ t.pos) (ht1 : t.pos ≤ 1000000) :
    Calls Tryz.prog 40 #[.int .i64 i, lxV t, .pointer (some ⟨b, 0, none⟩), .pointer (some ⟨d, 0, none⟩)] w fun e w' => e = .returned (.bool (M.tailP x ((u.size : Int) - (s.size : Int)) last i t)) ∧ Below w.heap.size w w' := by
  obtain ⟨x0, x1, x2, x3, x4⟩ := hx
  have hb : b < w.heap.size := World.block_lt_of_cell? w ⟨b, 0, none⟩ x0
  have hdl : d < w.heap.size := World.block_lt_of_cell? w ⟨d, 0, none⟩ hd
  by_cases h1 : x.to_ ≤ t.pos
  · have d1 : decide (x.to_ ≤ t.pos) = true := by simpa using h1
    by_cases h2 : i < last.length
    · have d2 : decide ((i : Int) < (last.length : Int)) = true := by simp; omega
      obtain ⟨nb, off, rfl, ha⟩ := hn.at h2
      have c0 := ha.c0 i h2
      have c1 := ha.c1 i h2
      have c2 := ha.c2 i h2
      have hnb := ha.lt
      have hq := fun W => eqLx_run last[i] (M.moved t ((u.size : Int) - (s.size : Int))) W
      have n1 : (i : Int) < (last.length : Int) := by omega
      have n2 : (0 : Int) ≤ (i : Int) := by omega
      have hres : M.tailP x ((u.size : Int) - (s.size : Int)) last i t = M.eqLx last[i] (M.moved t ((u.size : Int) - (s.size : Int))) := by unfold M.tailP; rw [d1, List.getElem?_eq_getElem h2]; rfl
      have HRES := Lib.hid hres
      have hS0 : TailS b d nb (off + i * 3) w.heap.size x s u (.slice (some ⟨nb, off, none⟩) last.length c) last[i] t (w.alloc (.cells #[.int .u8 t.kind, .string t.text, .int .i64 t.pos] 42)) (w.alloc (.cells #[.int .u8 t.kind, .string t.text, .int .i64 t.pos] 42)) := by
        have k : ∀ {p : Addr} {v : Value}, w.cell? p = some v → (w.alloc (.cells #[.int .u8 t.kind, .string t.text, .int .i64 t.pos] 42)).cell? p = some v := fun {p v} hp => by rw [(below1 w _).cell (World.block_lt_of_cell? w p hp)]; exact hp
        exact ⟨k x0, k x1, k x2, k x3, k x4, k hd, k c0, k c1, k c2, by rw [World.cell?_alloc_at _ _ _ _ rfl]; rfl, by rw [World.cell?_alloc_at _ _ _ _ rfl]; rfl, by rw [World.cell?_alloc_at _ _ _ _ rfl]; rfl, Below.refl _ _⟩
      have H0 := Lib.hid hS0
      clear hres hn ha hS0
      go_enter Tryz.func40, Tryz.ntmps40
      go_wp2_with fail
      obtain ⟨W, hW⟩ : ∃ W, w.alloc (.cells #[.int .u8 t.kind, .string t.text, .int .i64 t.pos] 42) = W := ⟨_, rfl⟩
      have hwW : Below w.heap.size w W := hW ▸ below1 w _
      rw [hW] at H0 ⊢
      clear hW x0 x1 x2 x3 x4 hd c0 c1 c2
      obtain ⟨s0, s1, s2, s3, s4, s5, s6, s7, s8, s9, s10, s11, s12⟩ := H0.out
      have hD : Below W.heap.size W W.drew := (Below.refl _ _).drew
      have HC1 : Hid (∀ W', TailS b d nb (off + i * 3) w.heap.size x s u (.slice (some ⟨nb, off, none⟩) last.length c) last[i] t W W' → Calls Tryz.prog 41 #[edtV x s u] W' fun e w2 => e = .returned (.int .i64 ((u.size : Int) - (s.size : Int))) ∧ TailS b d nb (off + i * 3) w.heap.size x s u (.slice (some ⟨nb, off, none⟩) last.length c) last[i] t W w2) :=
        Lib.hid fun W' h => (shift_any s u x W' (by unfold maxLen; omega) (by unfold maxLen; omega)).mono fun e w2 ⟨he, hB⟩ => ⟨he, h.below hB⟩
      have HC2 : Hid (∀ W', TailS b d nb (off + i * 3) w.heap.size x s u (.slice (some ⟨nb, off, none⟩) last.length c) last[i] t W W' → Calls Tryz.prog 18 #[lxV t, .int .i64 ((u.size : Int) - (s.size : Int))] W' fun e w2 => e = .returned (lxV (M.moved t ((u.size : Int) - (s.size : Int)))) ∧ TailS b d nb (off + i * 3) w.heap.size x s u (.slice (some ⟨nb, off, none⟩) last.length c) last[i] t W w2) :=
        Lib.hid fun W' h => (moved_any t _ W' (by omega) (by omega)).mono fun e w2 ⟨he, hB⟩ => ⟨he, h.below hB⟩
      go_region_held3 (fun W' => W'.cell? ⟨b, 0, none⟩ = some (.int .i64 x.from_) ∧ W'.cell? ⟨b, 1, none⟩ = some (.int .i64 x.to_) ∧ W'.cell? ⟨b, 2, none⟩ = some (.string x.put) ∧ W'.cell? ⟨b, 3, none⟩ = some (.string s) ∧ W'.cell? ⟨b, 4, none⟩ = some (.string u) ∧ W'.cell? ⟨d, 0, none⟩ = some (.slice (some ⟨nb, off, none⟩) last.length c) ∧ W'.cell? ⟨nb, off + i * 3, none⟩ = some (.int .u8 last[i].kind) ∧ W'.cell? ⟨nb, off + i * 3 + 1, none⟩ = some (.string last[i].text) ∧ W'.cell? ⟨nb, off + i * 3 + 2, none⟩ = some (.int .i64 last[i].pos) ∧ W'.cell? ⟨w.heap.size, 0, none⟩ = some (.int .u8 t.kind) ∧ W'.cell? ⟨w.heap.size, 1, none⟩ = some (.string t.text) ∧ W'.cell? ⟨w.heap.size, 2, none⟩ = some (.int .i64 t.pos) ∧ Below W.heap.size W W')
        (first | go_keep | exact hS2 | exact hS1)
        (first
          | (go_at_call 41; refine (HC1.out _ (by refine ⟨?_, ?_, ?_, ?_, ?_, ?_, ?_, ?_, ?_, ?_, ?_, ?_, ?_⟩ <;> assumption)).mono ?_; rintro e w2 ⟨rfl, hS1⟩)
          | (go_at_call 18; refine (HC2.out _ (by exact hS1)).mono ?_; rintro e w3 ⟨rfl, hS2⟩))
      go_wp2_with fail
      go_ret
      exact ⟨ret_bool HRES.out.symm, below2 hwW hS2.2.2.2.2.2.2.2.2.2.2.2.2⟩
    · have d2 : decide ((i : Int) < (last.length : Int)) = false := by simp; omega
      have hres : M.tailP x ((u.size : Int) - (s.size : Int)) last i t = false := by unfold M.tailP; rw [List.getElem?_eq_none (by omega)]; simp
      have HRES := Lib.hid hres
      clear hres hn
      go_enter Tryz.func40, Tryz.ntmps40
      go_wp2_with fail
      go_quiet (fail)
      go_wp2_with fail
      go_ret
      exact ⟨ret_bool HRES.out.symm, belowN (below1 w _) _⟩
  · have d1 : decide (x.to_ ≤ t.pos) = false := by simpa using h1
    have hres : M.tailP x ((u.size : Int) - (s.size : Int)) last i t = false := by unfold M.tailP; rw [d1]; rfl
    have HRES := Lib.hid hres
    clear hres hn
    go_enter Tryz.func40, Tryz.ntmps40
    go_wp2_with fail
    go_quiet (fail)
    go_wp2_with fail
    go_ret
    exact ⟨ret_bool HRES.out.symm, belowN (below1 w _) _⟩

end Go.Proofs.YtamdcloahkacnaaGreatDoor
