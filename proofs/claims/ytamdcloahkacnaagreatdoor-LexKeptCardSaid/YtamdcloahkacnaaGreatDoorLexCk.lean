/- DERIVED. The walk of the statement on tokens that are kept. -/
import Derived.Test.YtamdcloahkacnaaGreatDoorLexCa
import Derived.Test.YtamdcloahkacnaaGreatDoorLexBw
import Derived.Test.YtamdcloahkacnaaGreatDoorLexBs2
import Derived.Test.YtamdcloahkacnaaGreatDoorLexTc
import Derived.Deep.RegionHeldLaw
namespace Go.Proofs.YtamdcloahkacnaaGreatDoor
open Go.RowKit Go.WideMaps Go.Maps Go.Shelf

namespace M
theorem trip {α β : Type} (r : α × β × Nat) (h : r.2.2 = 0) : r = (r.1, r.2.1, 0) := by
  obtain ⟨a, b, c⟩ := r
  have h' : c = 0 := h
  subst h'
  rfl
theorem rescan_zero (s : ByteArray) (x : Ed) (h : (rescan s x).2.2 = 0) : (scan s.data.toList).2.2 = 0 ∧ isEdit s x ∧ (scan (after s x).data.toList).2.2 = 0 := by
  by_cases h1 : (scan s.data.toList).2.2 = 0
  · by_cases h2 : isEdit s x
    · by_cases h3 : (scan (after s x).data.toList).2.2 = 0
      · exact ⟨h1, h2, h3⟩
      · have hr : rescan s x = (⟨0, 0, []⟩, (scan (after s x).data.toList).2.1, (scan (after s x).data.toList).2.2) := by
          unfold rescan; rw [if_neg (by rw [h1]; simp), if_neg (by simpa using h2), if_pos h3]
        rw [hr] at h; exact absurd h h3
    · have hr : rescan s x = (⟨0, 0, []⟩, 0, 3) := by unfold rescan; rw [if_neg (by rw [h1]; simp), if_pos h2]
      rw [hr] at h; cases h
  · have hr : rescan s x = (⟨0, 0, []⟩, (scan s.data.toList).2.1, (scan s.data.toList).2.2) := by unfold rescan; rw [if_pos h1]
    rw [hr] at h; exact absurd h h1
theorem toks_lt (s : List UInt8) : ∀ l k, Toks s k l → ∀ y, y ∈ l → y.pos < s.length := by
  intro l
  induction l with
  | nil => intro k _ y hy; simp at hy
  | cons x l ih =>
    intro k h y hy
    obtain ⟨hk, ht, h2⟩ := h
    have hp := (isTok_of s k x hk ht).2.1
    rcases List.mem_cons.1 hy with rfl | hy
    · omega
    · exact ih _ h2 y hy
end M

/-- The cells that the statement reads: those of the edit and of the change. -/
structure KeBox (w : World) (x : M.Ed) (K H T : Nat) (a : Option Addr) (n c : Nat) (W : World) : Prop where
  x0 : W.cell? ⟨w.heap.size, 0, none⟩ = some (.int .i64 x.from_)
  x1 : W.cell? ⟨w.heap.size, 1, none⟩ = some (.int .i64 x.to_)
  x2 : W.cell? ⟨w.heap.size, 2, none⟩ = some (.string x.put)
  y0 : W.cell? ⟨K, 0, none⟩ = some (.int .i64 H)
  y1 : W.cell? ⟨K, 1, none⟩ = some (.int .i64 T)
  y2 : W.cell? ⟨K, 2, none⟩ = some (.slice a n c)
  bw : Below w.heap.size w W
theorem KeBox.next {w : World} {x : M.Ed} {K H T : Nat} {a : Option Addr} {n c : Nat} {W W2 : World} (h : KeBox w x K H T a n c W) (hB : Below W.heap.size W W2) : KeBox w x K H T a n c W2 :=
  ⟨cell_below h.x0 hB, cell_below h.x1 hB, cell_below h.x2 hB, cell_below h.y0 hB, cell_below h.y1 hB, cell_below h.y2 hB, below2 h.bw hB⟩
theorem box1E {w w1 : World} {x : M.Ed} {t1 : TypeId} (hB : Below (w.alloc (.cells #[.int .i64 x.from_, .int .i64 x.to_, .string x.put] t1)).heap.size (w.alloc (.cells #[.int .i64 x.from_, .int .i64 x.to_, .string x.put] t1)) w1) :
    (w1.cell? ⟨w.heap.size, 0, none⟩ = some (.int .i64 x.from_) ∧ w1.cell? ⟨w.heap.size, 1, none⟩ = some (.int .i64 x.to_) ∧ w1.cell? ⟨w.heap.size, 2, none⟩ = some (.string x.put)) ∧ Below w.heap.size w w1 := by
  have e0 : w1.heap[w.heap.size]? = some (.cells #[.int .i64 x.from_, .int .i64 x.to_, .string x.put] t1 (0, 0)) := by
    rw [hB.block _ (by simp)]; exact (MapKept.heap_alloc w _).1
  exact ⟨⟨by rw [Lib.cell_of_heap e0]; rfl, by rw [Lib.cell_of_heap e0]; rfl, by rw [Lib.cell_of_heap e0]; rfl⟩, (below1 w _).trans (hB.mono (by simp))⟩
theorem keBox {w w1 : World} {x : M.Ed} {t1 t2 : TypeId} {H T : Nat} {a : Option Addr} {n c : Nat} (hB : Below (w.alloc (.cells #[.int .i64 x.from_, .int .i64 x.to_, .string x.put] t1)).heap.size (w.alloc (.cells #[.int .i64 x.from_, .int .i64 x.to_, .string x.put] t1)) w1) :
    KeBox w x w1.heap.size H T a n c (w1.alloc (.cells #[.int .i64 H, .int .i64 T, .slice a n c] t2)) := by
  obtain ⟨⟨x0, x1, x2⟩, hb⟩ := box1E hB
  have hc : ∀ j, (w1.alloc (.cells #[.int .i64 H, .int .i64 T, .slice a n c] t2)).cell? ⟨w1.heap.size, j, none⟩ = (#[Value.int .i64 H, .int .i64 T, .slice a n c] : Array Value)[j]? := fun j => World.cell?_alloc_at _ _ _ _ rfl
  exact ⟨cell_below x0 (below1 _ _), cell_below x1 (below1 _ _), cell_below x2 (below1 _ _), by rw [hc]; rfl, by rw [hc]; rfl, by rw [hc]; rfl, below2 hb (below1 _ _)⟩

set_option maxHeartbeats 2000000 in
set_option maxRecDepth 100000 in
theorem lexKept_no (s : ByteArray) (x : M.Ed) (w : World) (hw : Ready w) (hs : s.size ≤ maxLen) (hp : x.put.size ≤ 140737488355328) (h : (M.rescan s x).2.2 ≠ 0) :
    Calls Tryz.prog 4 #[.string s, edV x] w fun e w' => e = .returned (.bool true) ∧ Below w.heap.size w w' := by
  obtain ⟨⟨hd, tl, nw⟩, p, c, hr⟩ : ∃ ch p c, M.rescan s x = (ch, p, c) := ⟨_, _, _, rfl⟩
  rw [hr] at h
  dsimp only at h
  have h3 : ((c : Int) == 0) = false := by rw [beq_eq_false_iff_ne]; omega
  have h4 : ((c : Int) != 0) = true := by rw [bne_iff_ne]; omega
  have HR := Lib.hid hr
  have HW := Lib.hid hw
  clear hr hw h
  go_enter Tryz.func4, Tryz.ntmps4
  go_wp2_with fail
  refine (rescan_all s x _ (HW.out.below (below1 w _)) hs hp).mono ?_
  rintro e w1 ⟨a1, c1, rfl, _, hs1, hB1⟩
  rw [HR.out]
  dsimp only
  have hB := (box1E hB1).2
  clear hs1 hB1
  go_wp2_with fail
  refine (awake_any _ (HW.out.below (belowA hB _))).mono ?_
  rintro e w8 ⟨rfl, hB2⟩
  go_wp2_with fail
  go_ret
  exact ⟨rfl, below2 (belowA hB _) hB2⟩

set_option maxHeartbeats 8000000 in
set_option maxRecDepth 100000 in
theorem lexKept_yes (s : ByteArray) (x : M.Ed) (w : World) (hw : Ready w) (l m : List M.Lx) (p q : Nat) (H T : Nat) (nw : List M.Lx) (hx : M.isEdit s x) (hsc : M.scan s.data.toList = (l, p, 0)) (hsc2 : M.scan (M.after s x).data.toList = (m, q, 0))
    (hr : M.rescan s x = (⟨H, T, nw⟩, 0, 0)) (hH : M.head x l m = H) (hT : M.tail x (((M.after s x).size : Int) - (s.size : Int)) l m = T) (hnw : (m.take (m.length - T)).drop H = nw) :
    Calls Tryz.prog 4 #[.string s, edV x] w fun e w' => e = .returned (.bool true) ∧ Below w.heap.size w w' := by
  have hf1 := M.scan_fine s.data.toList
  have hf2 := M.scan_fine (M.after s x).data.toList
  have hpk := M.patch_kept s x hx
  have hkh := M.kept_head s x hx l m p q hsc hsc2
  have hkt := M.kept_tail s x hx l m p q hsc hsc2
  obtain ⟨hft, rfl, htk, _⟩ := M.scan_toks _ _ _ hsc
  obtain ⟨hft2, rfl, _, _⟩ := M.scan_toks _ _ _ hsc2
  have hlt := M.toks_lt _ _ _ htk
  rw [M.blank_len] at hlt
  have hls := M.size_list s
  have hap : M.appE s x = 0 := by unfold M.appE; rw [if_neg (by rw [hft]; simp), if_neg (by simpa using hx), hft2]
  have hat : M.applyT s x = M.after s x := by unfold M.applyT; rw [if_pos hap]
  rw [hsc] at hf1
  rw [hsc2] at hf2
  dsimp only at hf1 hf2
  have hsm := hf1.2.2 rfl
  have hum := hf2.2.2 rfl
  rw [M.size_list] at hsm hum
  have has := M.after_size s x hx
  obtain ⟨z1, z2, z3⟩ := hx
  have hpm : x.put.size ≤ 2500 := by omega
  have hpa := hpk hpm l m 0 0 hsc hsc2
  have hll := hf1.2.1
  have hml := hf2.2.1
  have hold := M.head_tail_old x (((M.after s x).size : Int) - (s.size : Int)) z2 l m
  have hnew := M.head_tail s x ⟨z1, z2, z3⟩ l m
  rw [hH] at hpa hold hkh hnew
  rw [hT] at hpa hold hkt hnew
  rw [hnw] at hpa
  have hnl : nw.length ≤ 900 := by rw [← hnw, List.length_drop, List.length_take]; omega
  obtain ⟨u, hu⟩ : ∃ u, M.after s x = u := ⟨_, rfl⟩
  rw [hu] at hsc2 hat hum has
  have hfp : ∀ t, t ∈ l → 0 ≤ t.pos ∧ t.pos ≤ 2500 ∧ t.text.size ≤ 2500 := fun t ht => by have := hf1.1 t ht; unfold M.fine at this; omega
  have hsame := (M.sameLx_iff m m).2 rfl
  have d1 : decide (s.size ≤ 3000) = true := decide_eq_true (by omega)
  have d2 : decide (x.put.size ≤ 3000) = true := decide_eq_true (by omega)
  have HW := Lib.hid hw
  have HR := Lib.hid hr
  have HS := Lib.hid hsc
  have HS2 := Lib.hid hsc2
  have HAP := Lib.hid hap
  have HAT := Lib.hid hat
  have HPA := Lib.hid hpa
  have HKH := Lib.hid hkh
  have HKT := Lib.hid hkt
  have HLT := Lib.hid hlt
  have HFP := Lib.hid hfp
  have HSAME := Lib.hid hsame
  have D1 := Lib.hid d1
  have D2 := Lib.hid d2
  have q1 : (l.length : Int) ≤ 900 := by omega
  have q2 : (H : Int) ≤ (l.length : Int) := by omega
  have q3 : (T : Int) ≤ (l.length : Int) - (H : Int) := by omega
  clear hw hr hsc hsc2 hap hat hpa hpk hkh hkt hlt hfp hsame d1 d2 hf1 hf2 hft hft2 htk hu hH hT hnw hls hnew
  go_enter Tryz.func4, Tryz.ntmps4
  go_wp2_with fail
  refine (rescan_all s x _ (HW.out.below (below1 w _)) (by unfold maxLen; omega) (by omega)).mono ?_
  rintro e w1 ⟨a1, c1, rfl, hn1, hs1, hB1⟩
  rw [HR.out] at hs1 ⊢
  dsimp only at hs1 ⊢
  have hb := keBox (t2 := 26) (H := H) (T := T) (a := a1) (n := nw.length) (c := c1) hB1
  have HN1 := Lib.hid (hs1.below (below1 w1 (.cells #[.int .i64 H, .int .i64 T, .slice a1 nw.length c1] 26)))
  have HNN := Lib.hid hn1
  clear hs1 hB1 hn1
  go_wp2_with fail
  refine (short_any s _).mono ?_
  rintro e w2 ⟨rfl, hB2⟩
  rw [D1.out]
  replace hb := hb.next hB2
  replace HN1 := Lib.hid (HN1.out.below hB2)
  clear hB2
  obtain ⟨x0, x1, x2, y0, y1, y2, bw⟩ := hb
  go_wp2_with fail
  refine (short_any x.put _).mono ?_
  rintro e w3 ⟨rfl, hB2⟩
  rw [D2.out]
  obtain ⟨x0, x1, x2, y0, y1, y2, bw⟩ := (KeBox.mk x0 x1 x2 y0 y1 y2 bw : KeBox w x w1.heap.size H T a1 nw.length c1 w2).next hB2
  replace HN1 := Lib.hid (HN1.out.below hB2)
  clear hB2
  go_wp2_with fail
  refine (scan_any s _ (HW.out.below bw) (by unfold maxLen; omega)).mono ?_
  rintro e w4 ⟨a4, c4, rfl, hk4, hn4, hs4, hB2⟩
  rw [HS.out] at hk4 hs4 ⊢
  dsimp only at hk4 hs4 ⊢
  obtain ⟨x0, x1, x2, y0, y1, y2, bw⟩ := (KeBox.mk x0 x1 x2 y0 y1 y2 bw : KeBox w x w1.heap.size H T a1 nw.length c1 w3).next hB2
  replace HN1 := Lib.hid (HN1.out.below hB2)
  have HL := Lib.hid hs4
  have HLN := Lib.hid hn4
  clear hB2 hs4 hn4
  go_wp2_with fail
  refine (Apply_any s x _ (by unfold maxLen; omega) (by omega)).mono ?_
  rintro e w5 ⟨rfl, hB2⟩
  rw [HAT.out, HAP.out]
  obtain ⟨x0, x1, x2, y0, y1, y2, bw⟩ := (KeBox.mk x0 x1 x2 y0 y1 y2 bw : KeBox w x w1.heap.size H T a1 nw.length c1 w4).next hB2
  replace HN1 := Lib.hid (HN1.out.below hB2)
  replace HL := Lib.hid (HL.out.below hB2)
  clear hB2
  go_wp2_with fail
  refine (scan_any u _ (HW.out.below bw) (by unfold maxLen; omega)).mono ?_
  rintro e w6 ⟨a6, c6, rfl, hk6, hn6, hs6, hB2⟩
  rw [HS2.out] at hk6 hs6 ⊢
  dsimp only at hk6 hs6 ⊢
  obtain ⟨x0, x1, x2, y0, y1, y2, bw⟩ := (KeBox.mk x0 x1 x2 y0 y1 y2 bw : KeBox w x w1.heap.size H T a1 nw.length c1 w5).next hB2
  replace HN1 := Lib.hid (HN1.out.below hB2)
  replace HL := Lib.hid (HL.out.below hB2)
  have HM := Lib.hid hs6
  clear hB2 hs6 hn6
  have e7 : decide ((900 : Int) < (l.length : Int)) = false := decide_eq_false (by omega)
  have e8 : decide ((H : Int) < 0) = false := decide_eq_false (by omega)
  have e9 : decide ((T : Int) < 0) = false := decide_eq_false (by omega)
  have e10 : decide ((l.length : Int) < (H : Int)) = false := decide_eq_false (by omega)
  have e11 : decide ((l.length : Int) - (H : Int) < (T : Int)) = false := decide_eq_false (by omega)
  go_wp2_with fail
  have hD : Below w6.heap.size w6 w6.drew := (Below.refl _ _).drew
  have tok1 : True := trivial
  have hc4 := hk4
  go_region_held_law (fun W' => W'.cell? ⟨w.heap.size, 0, none⟩ = some (.int .i64 x.from_) ∧ W'.cell? ⟨w.heap.size, 1, none⟩ = some (.int .i64 x.to_) ∧ W'.cell? ⟨w.heap.size, 2, none⟩ = some (.string x.put) ∧ W'.cell? ⟨w1.heap.size, 0, none⟩ = some (.int .i64 H) ∧ W'.cell? ⟨w1.heap.size, 1, none⟩ = some (.int .i64 T) ∧ W'.cell? ⟨w1.heap.size, 2, none⟩ = some (.slice a1 nw.length c1) ∧ Below w6.heap.size w6 W')
    (first
      | go_keep
      | exact ⟨cell_below x0 (grow_first hg1), cell_below x1 (grow_first hg1), cell_below x2 (grow_first hg1), cell_below y0 (grow_first hg1), cell_below y1 (grow_first hg1), cell_below y2 (grow_first hg1), grow_first hg1⟩
      | exact ⟨cell_below x0 (below2 (grow_first hg1) hBp), cell_below x1 (below2 (grow_first hg1) hBp), cell_below x2 (below2 (grow_first hg1) hBp), cell_below y0 (below2 (grow_first hg1) hBp), cell_below y1 (below2 (grow_first hg1) hBp), cell_below y2 (below2 (grow_first hg1) hBp), below2 (grow_first hg1) hBp⟩)
    ((first
      | (have _t := tok1
         refine step_app_lx ?_ (Operand.const (Value.slice none 0 0)) (Operand.tmp 102) ?_ w6.heap.size (.slice none 0 0) [] ?_ (own_none _ _) a4 c4 l l.length rfl ?_ HLN.out (HL.out.below hD) (by simp; omega) (Nat.le_refl _) ?_
         · rfl
         · rfl
         · rfl
         · rfl
         intro va Wm howna hg1
         obtain ⟨oa, oc, rfl, hoc, hna, hsa⟩ := own_lx (by rw [List.nil_append] at howna; exact howna)
         clear tok1 _t)
      | (go_at_call 8
         refine (patch_any oa oc a1 c1 l nw x H T _ (by omega) (by omega) (by omega) hna HNN.out hoc hsa (HN1.out.below (grow_first hg1))).mono ?_
         rintro e Wp ⟨pa, pc, rfl, _, hps, hBp⟩)))
  have hB6 : Below w6.heap.size w6 Wp := below2 (grow_first hg1) hBp
  obtain ⟨x0, x1, x2, y0, y1, y2, bw⟩ := (KeBox.mk x0 x1 x2 y0 y1 y2 bw : KeBox w x w1.heap.size H T a1 nw.length c1 w6).next hB6
  rw [HPA.out] at hps ⊢
  dsimp only at hps ⊢
  have HL2 := Lib.hid (HL.out.below hB6)
  have HM2 := Lib.hid (HM.out.below hB6)
  have HP2 := Lib.hid hps
  clear howna hg1 hBp hB6 hps hsa hna hoc HN1 HL HM hD
  go_wp2_with fail
  refine (sameTokens_any a6 pa c6 pc m m _ (by omega) (by omega) HM2.out HP2.out).mono ?_
  rintro e w7 ⟨rfl, hB2⟩
  rw [HSAME.out]
  obtain ⟨x0, x1, x2, y0, y1, y2, bw⟩ := (KeBox.mk x0 x1 x2 y0 y1 y2 bw : KeBox w x w1.heap.size H T a1 nw.length c1 Wp).next hB2
  replace HL2 := Lib.hid (HL2.out.below hB2)
  clear hB2 HM2 HP2
  obtain ⟨b, hb⟩ : ∃ b : Nat, x.to_ = (b : Int) := ⟨x.to_.toNat, by omega⟩
  have hbs : b ≤ s.size := by omega
  rw [hb] at x1
  have HB := Lib.hid hb
  clear hb
  go_wp2_with fail
  go_loop [18] (fun v => ∃ f : Nat, b ≤ f ∧ f ≤ s.size ∧ v = .int .i64 f) (fun v => s.size - (intOf v).toNat)
  case atStart => exact ⟨b, Nat.le_refl _, hbs, rfl⟩
  case round =>
    obtain ⟨f, hbf, hfs, rfl⟩ := hrel
    by_cases hfl : f < s.size
    · have n1 : (f : Int) < (s.size : Int) := by omega
      obtain ⟨ch, hch⟩ : ∃ ch, s[f]'hfl = ch := ⟨_, rfl⟩
      by_cases h10 : ch.toNat = 10
      · have m1 : (((ch.toNat : Nat) : Int) != 10) = false := by rw [h10]; rfl
        have m2 : (((ch.toNat : Nat) : Int) == 10) = true := by rw [h10]; rfl
        have hgap : s.data.toList[f]'(by rw [M.size_list]; exact hfl) = 10 := by
          have : s.data.toList[f]'(by rw [M.size_list]; exact hfl) = ch := hch
          rw [this]; exact UInt8.toNat_inj.1 h10
        have hkk : ∀ k, (hk : k < l.length) → (f : Int) < l[k].pos → l.length - T ≤ k := fun k hk he => HKT.out f (by have := HB.out; omega) (by rw [M.size_list]; exact hfl) hgap k hk he
        have HKK := Lib.hid hkk
        clear hgap hkk
        go_wp2_with fail
        go_loopw [19] (fun i wr => ∃ k : Nat, k ≤ l.length ∧ i = .int .i64 k ∧ Below w7.heap.size w7 wr) (fun i _ => l.length - (intOf i).toNat)
        case atStart => exact ⟨0, by omega, rfl, Below.refl _ _⟩
        case round =>
          rename_i wr
          obtain ⟨k, hk, rfl, hBr⟩ := hrel
          by_cases hkl : k < l.length
          · obtain ⟨bb, off, rfl, ha⟩ := (HL2.out.below hBr).at hkl
            have c1 := ha.c1 k hkl
            have c2 := ha.c2 k hkl
            have hkh := HKH.out k hkl
            have hkk := HKK.out k hkl
            obtain ⟨p1, p2, p3⟩ := HFP.out l[k] (List.getElem_mem hkl)
            obtain ⟨t, ht⟩ : ∃ t, l[k] = t := ⟨_, rfl⟩
            rw [ht] at c1 c2 hkh hkk p1 p2 p3
            have u0 := cell_below x0 hBr
            have v0 := cell_below y0 hBr
            have v1 := cell_below y1 hBr
            have n1 : (k : Int) < (l.length : Int) := by omega
            have n2 : (0 : Int) ≤ (k : Int) := by omega
            have n3 : (0 : Int) ≤ (t.text.size : Int) := by omega
            clear ha ht
            by_cases g1 : t.pos + (t.text.size : Int) < x.from_
            · have d1 : decide (t.pos + (t.text.size : Int) < x.from_) = true := decide_eq_true g1
              have d2 : decide ((H : Int) ≤ (k : Int)) = false := decide_eq_false (by have := hkh g1; omega)
              have d2' : decide (H ≤ k) = false := decide_eq_false (by have := hkh g1; omega)
              by_cases g3 : (f : Int) < t.pos
              · have d3 : decide ((f : Int) < t.pos) = true := decide_eq_true g3
                have d4 : decide ((k : Int) < (l.length : Int) - (T : Int)) = false := decide_eq_false (by have := hkk g3; omega)
                clear hkh hkk g1 g3
                go_wp2_with fail
                go_quiet (fail)
                go_wp2_with fail
                exact ⟨⟨k + 1, by omega, by simp, belowN hBr _⟩, by simp [intOf]; omega⟩
              · have d3 : decide ((f : Int) < t.pos) = false := decide_eq_false g3
                clear hkh hkk g1 g3
                go_wp2_with fail
                go_quiet (fail)
                go_wp2_with fail
                exact ⟨⟨k + 1, by omega, by simp, belowN hBr _⟩, by simp [intOf]; omega⟩
            · have d1 : decide (t.pos + (t.text.size : Int) < x.from_) = false := decide_eq_false g1
              by_cases g3 : (f : Int) < t.pos
              · have d3 : decide ((f : Int) < t.pos) = true := decide_eq_true g3
                have d4 : decide ((k : Int) < (l.length : Int) - (T : Int)) = false := decide_eq_false (by have := hkk g3; omega)
                clear hkh hkk g1 g3
                go_wp2_with fail
                go_quiet (fail)
                go_wp2_with fail
                exact ⟨⟨k + 1, by omega, by simp, belowN hBr _⟩, by simp [intOf]; omega⟩
              · have d3 : decide ((f : Int) < t.pos) = false := decide_eq_false g3
                clear hkh hkk g1 g3
                go_wp2_with fail
                go_quiet (fail)
                go_wp2_with fail
                exact ⟨⟨k + 1, by omega, by simp, belowN hBr _⟩, by simp [intOf]; omega⟩
          · have n1 : ¬ (k : Int) < (l.length : Int) := by omega
            have hBf := below2 bw hBr
            go_wp2_with fail
            refine (awake_any _ (HW.out.below hBf)).mono ?_
            rintro e w8 ⟨rfl, hB2⟩
            go_wp2_with fail
            go_ret
            exact ⟨rfl, below2 hBf hB2⟩
      · have m1 : (((ch.toNat : Nat) : Int) != 10) = true := by rw [bne_iff_ne]; omega
        have m2 : (((ch.toNat : Nat) : Int) == 10) = false := by rw [beq_eq_false_iff_ne]; omega
        go_wp2_with fail
        go_round
        case rel => exact ⟨f + 1, by omega, by omega, by go_num⟩
        case measure => simp [intOf]; omega
    · obtain rfl : f = s.size := by omega
      have m1 : decide ((s.size : Int) < (s.size : Int)) = false := decide_eq_false (by omega)
      have hkk : ∀ k, (hk : k < l.length) → (s.size : Int) < l[k].pos → l.length - T ≤ k := fun k hk he => by
        have := HLT.out l[k] (List.getElem_mem hk)
        rw [M.size_list] at this
        omega
      have HKK := Lib.hid hkk
      clear hkk
      go_wp2_with fail
      go_loopw [19] (fun i wr => ∃ k : Nat, k ≤ l.length ∧ i = .int .i64 k ∧ Below w7.heap.size w7 wr) (fun i _ => l.length - (intOf i).toNat)
      case atStart => exact ⟨0, by omega, rfl, Below.refl _ _⟩
      case round =>
        rename_i wr
        obtain ⟨k, hk, rfl, hBr⟩ := hrel
        by_cases hkl : k < l.length
        · obtain ⟨bb, off, rfl, ha⟩ := (HL2.out.below hBr).at hkl
          have c1 := ha.c1 k hkl
          have c2 := ha.c2 k hkl
          have hkh := HKH.out k hkl
          have hkk := HKK.out k hkl
          obtain ⟨p1, p2, p3⟩ := HFP.out l[k] (List.getElem_mem hkl)
          obtain ⟨t, ht⟩ : ∃ t, l[k] = t := ⟨_, rfl⟩
          rw [ht] at c1 c2 hkh hkk p1 p2 p3
          have u0 := cell_below x0 hBr
          have v0 := cell_below y0 hBr
          have v1 := cell_below y1 hBr
          have n1 : (k : Int) < (l.length : Int) := by omega
          have n2 : (0 : Int) ≤ (k : Int) := by omega
          have n3 : (0 : Int) ≤ (t.text.size : Int) := by omega
          clear ha ht
          by_cases g1 : t.pos + (t.text.size : Int) < x.from_
          · have d1 : decide (t.pos + (t.text.size : Int) < x.from_) = true := decide_eq_true g1
            have d2 : decide ((H : Int) ≤ (k : Int)) = false := decide_eq_false (by have := hkh g1; omega)
            have d2' : decide (H ≤ k) = false := decide_eq_false (by have := hkh g1; omega)
            by_cases g3 : (s.size : Int) < t.pos
            · have d3 : decide ((s.size : Int) < t.pos) = true := decide_eq_true g3
              have d4 : decide ((k : Int) < (l.length : Int) - (T : Int)) = false := decide_eq_false (by have := hkk g3; omega)
              clear hkh hkk g1 g3
              go_wp2_with fail
              go_quiet (fail)
              go_wp2_with fail
              exact ⟨⟨k + 1, by omega, by simp, belowN hBr _⟩, by simp [intOf]; omega⟩
            · have d3 : decide ((s.size : Int) < t.pos) = false := decide_eq_false g3
              clear hkh hkk g1 g3
              go_wp2_with fail
              go_quiet (fail)
              go_wp2_with fail
              exact ⟨⟨k + 1, by omega, by simp, belowN hBr _⟩, by simp [intOf]; omega⟩
          · have d1 : decide (t.pos + (t.text.size : Int) < x.from_) = false := decide_eq_false g1
            by_cases g3 : (s.size : Int) < t.pos
            · have d3 : decide ((s.size : Int) < t.pos) = true := decide_eq_true g3
              have d4 : decide ((k : Int) < (l.length : Int) - (T : Int)) = false := decide_eq_false (by have := hkk g3; omega)
              clear hkh hkk g1 g3
              go_wp2_with fail
              go_quiet (fail)
              go_wp2_with fail
              exact ⟨⟨k + 1, by omega, by simp, belowN hBr _⟩, by simp [intOf]; omega⟩
            · have d3 : decide ((s.size : Int) < t.pos) = false := decide_eq_false g3
              clear hkh hkk g1 g3
              go_wp2_with fail
              go_quiet (fail)
              go_wp2_with fail
              exact ⟨⟨k + 1, by omega, by simp, belowN hBr _⟩, by simp [intOf]; omega⟩
        · have n1 : ¬ (k : Int) < (l.length : Int) := by omega
          have hBf := below2 bw hBr
          go_wp2_with fail
          refine (awake_any _ (HW.out.below hBf)).mono ?_
          rintro e w8 ⟨rfl, hB2⟩
          go_wp2_with fail
          go_ret
          exact ⟨rfl, below2 hBf hB2⟩

theorem lexKept_any (s : ByteArray) (x : M.Ed) (w : World) (hw : Ready w) (hs : s.size ≤ maxLen) (hp : x.put.size ≤ 140737488355328) :
    Calls Tryz.prog 4 #[.string s, edV x] w fun e w' => e = .returned (.bool true) ∧ Below w.heap.size w w' := by
  by_cases h : (M.rescan s x).2.2 = 0
  · obtain ⟨h1, hx, h2⟩ := M.rescan_zero s x h
    have e1 := M.trip _ h1
    have e2 := M.trip _ h2
    exact lexKept_yes s x w hw _ _ _ _ _ _ _ hx e1 e2 (by unfold M.rescan; rw [if_neg (by rw [h1]; simp), if_neg (by simpa using hx), if_neg (by rw [h2]; simp)]) rfl rfl rfl
  · exact lexKept_no s x w hw hs hp h
end Go.Proofs.YtamdcloahkacnaaGreatDoor
