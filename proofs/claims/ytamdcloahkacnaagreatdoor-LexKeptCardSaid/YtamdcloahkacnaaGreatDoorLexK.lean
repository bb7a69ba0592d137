/- DERIVED. Contracts of layer 1: whether a token is right; the bare text of tokens. -/
import Derived.Test.YtamdcloahkacnaaGreatDoorLexJ
import Derived.Deep.RegionHeld3
import Derived.IntWalk
namespace Go.Proofs.YtamdcloahkacnaaGreatDoor
open Go.RowKit Go.WideMaps Go.Maps

theorem belowN {B : Nat} {a w : World} (h : Below B a w) (n : Nat) : Below B a (w.drewN n) := ⟨h.os, h.tape, h.output, h.size, h.block⟩

namespace M
/-- Whether a token is right: its text's kind is its kind. -/
def okLx (x : Lx) : Bool := !decide (x.kind = 0) && decide (kindOf x.text.data.toList = x.kind)
/-- Whether a blank stands before token k; the bare text of the first k tokens. -/
def gapK (l : List Lx) (k : Nat) : Bool := match k with
  | 0 => false
  | k + 1 => match l[k]?, l[k + 1]? with
    | some a, some b => mustPart a.text.data.toList b.text.data.toList
    | _, _ => false
def bareK (l : List Lx) : Nat → List UInt8
  | 0 => []
  | k + 1 => bareK l k ++ (if gapK l k = true then [32] else []) ++ (match l[k]? with | some x => x.text.data.toList | none => [])
theorem bareK_len (l : List Lx) (h : ∀ x, x ∈ l → x.text.size ≤ 1000000) : ∀ k, (bareK l k).length ≤ k * 1000001 := by
  intro k
  induction k with
  | zero => simp [bareK]
  | succ k ih =>
    have h1 : (if gapK l k = true then [(32 : UInt8)] else []).length ≤ 1 := by split <;> simp
    have h2 : (match l[k]? with | some x => x.text.data.toList | none => []).length ≤ 1000000 := by
      split
      · rename_i x hx
        rw [size_list]; exact h x (List.mem_of_getElem? hx)
      · simp
    unfold bareK
    simp only [List.length_append]
    omega
end M

theorem enters_Join1 : ∀ args w, (callFunc 29 args).run Tryz.prog w = .ok (.enter 29 args) w := enters_of Tryz.func29 (by kernel_rfl) rfl

set_option maxHeartbeats 1000000 in
set_option maxRecDepth 100000 in
theorem join1_any (x : M.Lx) (b bm bs : Nat) (w : World) (h0 : w.cell? ⟨b, 0, none⟩ = some (.map (some bm))) (h1 : w.cell? ⟨b, 1, none⟩ = some (.slice (some ⟨bs, 0, none⟩) 22 22)) (hr : RdAt w bm bs) (hw : Ready w) (hs : x.text.size ≤ 281474976710656) :
    Calls Tryz.prog 29 #[lxV x, .pointer (some ⟨b, 0, none⟩)] w fun e w' => e = .returned (.bool (M.okLx x)) ∧ Below w.heap.size w w' := by
  have hb : b < w.heap.size := World.block_lt_of_cell? w ⟨b, 0, none⟩ h0
  by_cases hz : x.kind = 0
  · have hz1 : (x.kind == 0) = true := by rw [hz]; rfl
    have hz2 : (!x.kind == 0) = false := by rw [hz1]; rfl
    have hz3 : (x.kind != 0) = false := by rw [hz]; rfl
    have HZ := Lib.hid hz
    clear hz
    go_enter Tryz.func29, Tryz.ntmps29
    go_wp2_with fail
    go_quiet (fail)
    go_wp2_with fail
    go_ret
    exact ⟨ret_bool (by unfold M.okLx; simp [HZ.out]), belowN (below1 w _) _⟩
  · have hz1 : (x.kind == 0) = false := by rw [beq_eq_false_iff_ne]; exact hz
    have hz2 : (!x.kind == 0) = true := by rw [hz1]; rfl
    have hz3 : (x.kind != 0) = true := by rw [bne_iff_ne]; exact hz
    have hk : (M.kindOf x.text.data.toList == x.kind) = M.okLx x := by unfold M.okLx; rw [Bool.eq_iff_iff]; simp [hz]
    have HK := Lib.hid hk
    have HR := Lib.hid hr
    have HW := Lib.hid hw
    clear hz hk hr hw
    go_enter Tryz.func29, Tryz.ntmps29
    go_wp2_with fail
    obtain ⟨W, hW⟩ : ∃ W, w.alloc (.cells #[.int .u8 x.kind, .string x.text, .int .i64 x.pos] 42) = W := ⟨_, rfl⟩
    have hBW : Below w.heap.size w W := hW ▸ below1 _ _
    have x0 : W.cell? ⟨w.heap.size, 0, none⟩ = some (.int .u8 x.kind) := by rw [← hW, World.cell?_alloc_at _ _ _ _ rfl]; rfl
    have x1 : W.cell? ⟨w.heap.size, 1, none⟩ = some (.string x.text) := by rw [← hW, World.cell?_alloc_at _ _ _ _ rfl]; rfl
    have r0 : W.cell? ⟨b, 0, none⟩ = some (.map (some bm)) := by rw [hBW.cell hb]; exact h0
    have r1 : W.cell? ⟨b, 1, none⟩ = some (.slice (some ⟨bs, 0, none⟩) 22 22) := by rw [hBW.cell hb]; exact h1
    have hzW : w.heap.size < W.heap.size := by rw [← hW]; simp
    rw [hW]
    clear hW h0 h1
    have HC : Hid (∀ W', (W'.cell? ⟨w.heap.size, 0, none⟩ = some (.int .u8 x.kind) ∧ W'.cell? ⟨w.heap.size, 1, none⟩ = some (.string x.text) ∧ W'.cell? ⟨b, 0, none⟩ = some (.map (some bm)) ∧ W'.cell? ⟨b, 1, none⟩ = some (.slice (some ⟨bs, 0, none⟩) 22 22) ∧ Below W.heap.size W W') →
        Calls Tryz.prog 30 #[rdV bm bs, .string x.text] W' fun e w2 => e = .returned (.int .u8 (M.kindOf x.text.data.toList)) ∧ (w2.cell? ⟨w.heap.size, 0, none⟩ = some (.int .u8 x.kind) ∧ w2.cell? ⟨w.heap.size, 1, none⟩ = some (.string x.text) ∧ w2.cell? ⟨b, 0, none⟩ = some (.map (some bm)) ∧ w2.cell? ⟨b, 1, none⟩ = some (.slice (some ⟨bs, 0, none⟩) 22 22) ∧ Below W.heap.size W w2)) :=
      Lib.hid fun W' ⟨a0, a1, a2, a3, a4⟩ => (kind_any bm bs x.text W' ((HR.out.below hBW).below a4) ((HW.out.below hBW).below a4) hs).mono fun e w2 ⟨he, hB2⟩ =>
        ⟨he, by rw [hB2.cell (by show w.heap.size < _; exact Nat.lt_of_lt_of_le hzW a4.size)]; exact a0, by rw [hB2.cell (by show w.heap.size < _; exact Nat.lt_of_lt_of_le hzW a4.size)]; exact a1,
          by rw [hB2.cell (by show b < _; exact Nat.lt_trans hb (Nat.lt_of_lt_of_le hzW a4.size))]; exact a2, by rw [hB2.cell (by show b < _; exact Nat.lt_trans hb (Nat.lt_of_lt_of_le hzW a4.size))]; exact a3, below2 a4 hB2⟩
    have hD : Below W.heap.size W W.drew := (Below.refl _ _).drew
    go_region_held3 (fun W' => W'.cell? ⟨w.heap.size, 0, none⟩ = some (.int .u8 x.kind) ∧ W'.cell? ⟨w.heap.size, 1, none⟩ = some (.string x.text) ∧ W'.cell? ⟨b, 0, none⟩ = some (.map (some bm)) ∧ W'.cell? ⟨b, 1, none⟩ = some (.slice (some ⟨bs, 0, none⟩) 22 22) ∧ Below W.heap.size W W') (first | go_keep | exact hSS)
      (first | (go_at_call 30; refine (HC.out _ (by refine ⟨?_, ?_, ?_, ?_, ?_⟩ <;> assumption)).mono ?_; rintro e w2 ⟨rfl, hSS⟩))
    go_wp2_with fail
    go_ret
    exact ⟨ret_bool HK.out, below2 hBW hSS.2.2.2.2⟩


theorem builder_below {B b : Nat} {p : Value} {bs : List Value} {w w' : World} (h : Lib.BuilderAt 92 5 B b p bs w) (hb : Below w.heap.size w w') : Lib.BuilderAt 92 5 B b p bs w' := by
  have hlt := h.lt
  obtain ⟨h1, v, h2, h3, h4⟩ := h
  exact ⟨h1, v, (hb.block b hlt).trans h2, h3.kept (row := none) ⟨hb.os, hb.tape, hb.output, hb.size, fun k hk _ => hb.block k hk⟩ (by cases hv : v.ownBlock <;> simp), h4⟩
theorem isb_below {B b : Nat} {bs : List Value} {w w' : World} (h : Lib.IsBuilder 92 5 B b bs w) (hb : Below w.heap.size w w') : Lib.IsBuilder 92 5 B b bs w' := by
  rcases h with h | h
  · exact Or.inl (builder_below h hb)
  · exact Or.inr (builder_below h hb)
theorem bareK_succ (l : List M.Lx) (k : Nat) (hk : k < l.length) (g : Bool) (hg : M.gapK l k = g) : Lib.byteCells (M.bareK l (k + 1)) = Lib.byteCells (M.bareK l k) ++ (if g = true then [Value.int .u8 32] else []) ++ Lib.strCells l[k].text := by
  show Lib.byteCells (M.bareK l k ++ (if M.gapK l k = true then [32] else []) ++ (match l[k]? with | some x => x.text.data.toList | none => [])) = _
  rw [hg, List.getElem?_eq_getElem hk]
  cases g <;> simp [Lib.byteCells, Lib.strCells]

set_option maxHeartbeats 2000000 in
set_option maxRecDepth 100000 in
theorem bare_any (a : Option Addr) (c bm bs : Nat) (l : List M.Lx) (w : World) (hr : RdAt w bm bs) (hw : Ready w) (hl : l.length ≤ 1000) (hs : LxSl w a l) (ht : ∀ x, x ∈ l → 0 < x.text.size ∧ x.text.size ≤ 1000000) :
    Calls Tryz.prog 31 #[rdV bm bs, .slice a l.length c] w fun e w' => e = .returned (.string (M.str (M.bareK l l.length))) ∧ Below w.heap.size w w' := by
  have HR := Lib.hid hr
  have HW := Lib.hid hw
  have HS := Lib.hid hs
  have HT := Lib.hid ht
  have HL := Lib.hid (M.bareK_len l (fun x hx => (ht x hx).2))
  clear hr hw hs ht
  go_enter Tryz.func31, Tryz.ntmps31
  go_wp2_with fail
  go_loopw [6, 7, 10] (fun _ _ i wr => ∃ k : Nat, k ≤ l.length ∧ i = .int .i64 k ∧ Lib.IsBuilder 92 5 (w.heap.size + 1) (w.heap.size + 1) (Lib.byteCells (M.bareK l k)) wr ∧ Below (w.heap.size + 1) (w.alloc (.cells #[.map (some bm), .slice (some ⟨bs, 0, none⟩) 22 22] 59)) wr) (fun _ _ i _ => l.length - (intOf i).toNat)
  case atStart =>
    refine ⟨0, by omega, rfl, Or.inl ⟨Nat.le_refl _, .slice none 0 0, ?_, ⟨rfl, Or.inl ⟨rfl, rfl⟩⟩, by simp [Value.ownBlock]⟩, (Below.refl _ _).alloc (by simp) _⟩
    have := (MapKept.heap_alloc (w.alloc (.cells #[.map (some bm), .slice (some ⟨bs, 0, none⟩) 22 22] 59)) (.cells #[.pointer none, .slice none 0 0] 92)).1
    simpa using this
  case round =>
    rename_i wr
    obtain ⟨k, hk, rfl, hI, hB⟩ := hrel
    have HI := Lib.hid hI
    clear hI
    have hBw : Below w.heap.size w wr := below2 (below1 _ _) (by simpa using hB)
    have r0 : wr.cell? ⟨w.heap.size, 0, none⟩ = some (.map (some bm)) := by rw [hB.cell (by simp), World.cell?_alloc_at _ _ _ _ rfl]; rfl
    have r1 : wr.cell? ⟨w.heap.size, 1, none⟩ = some (.slice (some ⟨bs, 0, none⟩) 22 22) := by rw [hB.cell (by simp), World.cell?_alloc_at _ _ _ _ rfl]; rfl
    have hzr : w.heap.size + 1 ≤ wr.heap.size := by have := hB.size; simpa using this
    by_cases hlt : k < l.length
    · obtain ⟨b, off, rfl, ha⟩ := (HS.out.below hBw).at hlt
      have h0 := ha.c0 k hlt
      have h1 := ha.c1 k hlt
      have h2 := ha.c2 k hlt
      have hbl := ha.lt
      have HA := Lib.hid ha
      clear ha
      have hcap : (Lib.byteCells (M.bareK l k)).length + 1 + l[k].text.size ≤ 140737488355328 := by
        rw [Lib.byteCells_length]
        have h3 := HL.out k
        have h4 := (HT.out _ (List.getElem_mem hlt)).2
        have h5 : k * 1000001 ≤ 1000 * 1000001 := Nat.mul_le_mul_right _ (by omega)
        omega
      have HCAP := Lib.hid hcap
      clear hcap
      -- behind the region: whether a gap stands there, V a world like that before it
      have HEND : Hid (∀ (g : Bool), M.gapK l k = g → ∀ V, Below (wr.heap.size + 1) (wr.alloc (.cells #[.int .u8 l[k].kind, .string l[k].text, .int .i64 l[k].pos] 42)) V →
          (Lib.IsBuilder 92 5 (w.heap.size + 1) (w.heap.size + 1) (Lib.byteCells (M.bareK l k)) V ∧ V.heap[wr.heap.size]? = some (.cells #[.int .u8 l[k].kind, .string l[k].text, .int .i64 l[k].pos] 42 (0, 0)) ∧ w.heap.size + 1 ≤ V.heap.size ∧ wr.heap.size ≠ w.heap.size + 1 ∧
            Below (w.heap.size + 1) (w.alloc (.cells #[.map (some bm), .slice (some ⟨bs, 0, none⟩) 22 22] 59)) V)) :=
        Lib.hid fun g _ V hV => by
          have hlt' : w.heap.size + 1 < wr.heap.size := by
            rcases HI.out with h | h
            · exact h.lt
            · exact h.lt
          refine ⟨isb_below HI.out (below2 (below1 wr _) (by simpa using hV)), ?_, ?_, by omega, ?_⟩
          · rw [hV.block _ (by omega)]; exact (MapKept.heap_alloc wr _).1
          · have := hV.size; simp at this; omega
          · exact (hB.alloc hzr _).trans (hV.mono (by omega))
      by_cases hk0 : k = 0
      · subst hk0
        simp only [Nat.zero_mul, Nat.add_zero] at h0 h1 h2
        go_wp2_with fail
        go_quiet (fail)
        obtain ⟨V, hV⟩ : ∃ V, (wr.alloc (.cells #[.int .u8 l[0].kind, .string l[0].text, .int .i64 l[0].pos] 42)).drewN nq = V := ⟨_, rfl⟩
        rw [hV]
        obtain ⟨i1, i2, i3, i4, i5⟩ := HEND.out false rfl V (hV ▸ belowN (Below.refl _ _) _)
        have v1 : V.cell? ⟨wr.heap.size, 1, none⟩ = some (.string l[0].text) := by rw [Lib.cell_of_heap i2]; rfl
        clear hV i2
        have I1 := Lib.hid i1
        clear i1
        have e1 := bareK_succ l 0 hlt false rfl
        have HE := Lib.hid e1
        clear e1
        go_wp2_with fail
        refine (writeString_any (w.heap.size + 1) (w.heap.size + 1) _ l[0].text _ I1.out (by have := HCAP.out; omega) i3).mono ?_
        rintro e w6 ⟨rfl, ⟨hI6, hB6⟩, _⟩
        go_wp2
        go_roundw
        case rel => exact ⟨0 + 1, by omega, by go_num, by rw [HE.out]; exact Or.inr (by simpa using hI6), i5.trans hB6⟩
        case measure => simp [intOf]; omega
      · have hk1 : 0 < k := by omega
        have hd : decide ((0 : Int) < (k : Int)) = true := by simp; omega
        have hpl : k - 1 < l.length := by omega
        have hp1 : wr.cell? ⟨b, off + (k - 1) * 3 + 1, none⟩ = some (.string l[k - 1].text) := HA.out.c1 (k - 1) hpl
        have hgp : M.gapK l k = M.mustPart l[k - 1].text.data.toList l[k].text.data.toList := by
          obtain ⟨m, rfl⟩ : ∃ m, k = m + 1 := ⟨k - 1, by omega⟩
          show (match l[m]?, l[m + 1]? with | some a, some b => M.mustPart a.text.data.toList b.text.data.toList | _, _ => false) = _
          rw [List.getElem?_eq_getElem hlt, List.getElem?_eq_getElem (by omega)]; rfl
        have HGP := Lib.hid hgp
        clear hgp
        go_wp2_with fail
        obtain ⟨W, hW⟩ : ∃ W, wr.alloc (.cells #[.int .u8 l[k].kind, .string l[k].text, .int .i64 l[k].pos] 42) = W := ⟨_, rfl⟩
        have hBW : Below wr.heap.size wr W := hW ▸ below1 _ _
        have hzW : wr.heap.size < W.heap.size := by rw [← hW]; simp
        have x1 : W.cell? ⟨wr.heap.size, 1, none⟩ = some (.string l[k].text) := by rw [← hW, World.cell?_alloc_at _ _ _ _ rfl]; rfl
        have q1 : W.cell? ⟨b, off + (k - 1) * 3 + 1, none⟩ = some (.string l[k - 1].text) := by rw [hBW.cell hbl]; exact hp1
        have s0 : W.cell? ⟨w.heap.size, 0, none⟩ = some (.map (some bm)) := by rw [hBW.cell (by show w.heap.size < _; omega)]; exact r0
        have s1 : W.cell? ⟨w.heap.size, 1, none⟩ = some (.slice (some ⟨bs, 0, none⟩) 22 22) := by rw [hBW.cell (by show w.heap.size < _; omega)]; exact r1
        have HWW := Lib.hid hW
        rw [hW]
        clear hW
        have HC : Hid (∀ W', (W'.cell? ⟨wr.heap.size, 1, none⟩ = some (.string l[k].text) ∧ W'.cell? ⟨b, off + (k - 1) * 3 + 1, none⟩ = some (.string l[k - 1].text) ∧ W'.cell? ⟨w.heap.size, 0, none⟩ = some (.map (some bm)) ∧ W'.cell? ⟨w.heap.size, 1, none⟩ = some (.slice (some ⟨bs, 0, none⟩) 22 22) ∧ Below W.heap.size W W') →
            Calls Tryz.prog 50 #[rdV bm bs, .string l[k - 1].text, .string l[k].text] W' fun e w2 => e = .returned (.bool (M.gapK l k)) ∧ (w2.cell? ⟨wr.heap.size, 1, none⟩ = some (.string l[k].text) ∧ w2.cell? ⟨b, off + (k - 1) * 3 + 1, none⟩ = some (.string l[k - 1].text) ∧ w2.cell? ⟨w.heap.size, 0, none⟩ = some (.map (some bm)) ∧ w2.cell? ⟨w.heap.size, 1, none⟩ = some (.slice (some ⟨bs, 0, none⟩) 22 22) ∧ Below W.heap.size W w2)) :=
          Lib.hid fun W' ⟨a0, a1, a2, a3, a4⟩ => by
            have hz4 := a4.size
            have t1 := HT.out _ (List.getElem_mem hpl)
            have t2 := HT.out _ (List.getElem_mem hlt)
            refine (mustPart_any bm bs l[k - 1].text l[k].text W' (((HR.out.below hBw).below hBW).below a4) (((HW.out.below hBw).below hBW).below a4) (by omega) t1.1).mono fun e w2 ⟨he, hB2⟩ =>
              ⟨by rw [HGP.out]; exact he, by rw [hB2.cell (by show wr.heap.size < _; omega)]; exact a0, by rw [hB2.cell (by show b < _; omega)]; exact a1,
                by rw [hB2.cell (by show w.heap.size < _; omega)]; exact a2, by rw [hB2.cell (by show w.heap.size < _; omega)]; exact a3, below2 a4 hB2⟩
        have hD : Below W.heap.size W W.drew := (Below.refl _ _).drew
        have n1 : IntKind.i64.wrap ((k : Int) - 1) = (k : Int) - 1 := IntWalk.i64_in _ (by omega)
        have n2 : (0 : Int) ≤ (k : Int) - 1 := by omega
        have n3 : (1 : Int) ≤ (k : Int) := by omega
        have n4 : ((k : Int) - 1) < (l.length : Int) := by omega
        have n5 : ((k : Int) - 1).toNat = k - 1 := by omega
        go_region_held3 (fun W' => W'.cell? ⟨wr.heap.size, 1, none⟩ = some (.string l[k].text) ∧ W'.cell? ⟨b, off + (k - 1) * 3 + 1, none⟩ = some (.string l[k - 1].text) ∧ W'.cell? ⟨w.heap.size, 0, none⟩ = some (.map (some bm)) ∧ W'.cell? ⟨w.heap.size, 1, none⟩ = some (.slice (some ⟨bs, 0, none⟩) 22 22) ∧ Below W.heap.size W W') (first | go_keep | exact hSS)
          (first | (go_at_call 50; refine (HC.out _ (by refine ⟨?_, ?_, ?_, ?_, ?_⟩ <;> assumption)).mono ?_; rintro e V ⟨rfl, hSS⟩))
        obtain ⟨v1, _, _, _, hBV⟩ := hSS
        clear n1 n2 n3 n4 n5 x1 q1 s0 s1 hp1 h0 h1 h2 r0 r1
        have hBV' : Below (wr.heap.size + 1) (wr.alloc (.cells #[.int .u8 l[k].kind, .string l[k].text, .int .i64 l[k].pos] 42)) V := by
          rw [HWW.out]; exact hBV.mono (by omega)
        cases hg : M.gapK l k
        · obtain ⟨i1, i2, i3, i4, i5⟩ := HEND.out false hg V hBV'
          have e1 := bareK_succ l k hlt false hg
          have HG := Lib.hid hg
          have HE := Lib.hid e1
          have I1 := Lib.hid i1
          clear e1 hg i1 i2
          go_wp2_with fail
          refine (writeString_any (w.heap.size + 1) (w.heap.size + 1) _ l[k].text _ I1.out (by have := HCAP.out; omega) i3).mono ?_
          rintro e w6 ⟨rfl, ⟨hI6, hB6⟩, _⟩
          go_wp2
          go_roundw
          case rel => exact ⟨k + 1, by omega, by go_num, by rw [HE.out]; exact Or.inr (by simpa using hI6), i5.trans hB6⟩
          case measure => simp [intOf]; omega
        · obtain ⟨i1, i2, i3, i4, i5⟩ := HEND.out true hg V hBV'
          have e1 := bareK_succ l k hlt true hg
          have HG := Lib.hid hg
          have HE := Lib.hid e1
          have I1 := Lib.hid i1
          have I2 := Lib.hid i2
          clear e1 hg i1 i2
          go_wp2_with fail
          refine (writeByte_any (w.heap.size + 1) (w.heap.size + 1) _ _ _ I1.out (by have := HCAP.out; omega) i3).mono ?_
          rintro e w5 ⟨rfl, ⟨hI5, hB5⟩, hok⟩
          have j2 : w5.heap[wr.heap.size]? = some (.cells #[.int .u8 l[k].kind, .string l[k].text, .int .i64 l[k].pos] 42 (0, 0)) := hok _ _ I2.out (by simp; omega) (by simp)
          have j1 : w5.cell? ⟨wr.heap.size, 1, none⟩ = some (.string l[k].text) := by rw [Lib.cell_of_heap j2]; rfl
          have j3 : w.heap.size + 1 ≤ w5.heap.size := Nat.le_trans i3 hB5.size
          have J5 := Lib.hid hI5
          clear j2 hI5 hok v1
          go_wp2_with fail
          refine (writeString_any (w.heap.size + 1) (w.heap.size + 1) _ l[k].text _ (Or.inr J5.out) (by have := HCAP.out; simp only [List.length_append, List.length_cons, List.length_nil]; omega) j3).mono ?_
          rintro e w6 ⟨rfl, ⟨hI6, hB6⟩, _⟩
          go_wp2
          go_roundw
          case rel => exact ⟨k + 1, by omega, by go_num, by rw [HE.out]; exact Or.inr (by simpa using hI6), i5.trans (hB5.trans hB6)⟩
          case measure => simp [intOf]; omega
    · obtain rfl : k = l.length := by omega
      go_wp2_with fail
      refine (Tryz.Builder_String_any (w.heap.size + 1) (w.heap.size + 1) _ _ HI.out hzr).mono ?_
      rintro e w1 ⟨rfl, hB1⟩
      go_wp2_with fail
      go_ret
      exact ⟨rfl, hBw.trans (hB1.mono (by omega))⟩

end Go.Proofs.YtamdcloahkacnaaGreatDoor
