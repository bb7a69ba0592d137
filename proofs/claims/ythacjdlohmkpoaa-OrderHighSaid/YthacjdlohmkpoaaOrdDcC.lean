/- DERIVED. The statement on heights, walked. -/
import Derived.Test.YthacjdlohmkpoaaOrdDaC
import Derived.Test.YthacjdlohmkpoaaGr27
import Derived.Test.YthacjdlohmkpoaaGr24
import Derived.Test.YthacjdlohmkpoaaBasLC
namespace Go.Proofs.Ythacjdlohmkpoaa
open Go.RowKit

/-- A box that lies lower than where something is written. -/
theorem bx_lo {w w' : World} {b B : Nat} {t : M.Tb} {p : Tp} (h : TbBox w b t p) (hb : b < B) (hB : Below B w w') : TbBox w' b t p := by
  obtain ⟨c0, c1, c2, c3⟩ := h
  exact ⟨(hB.cell (p := ⟨b, 0, none⟩) hb).trans c0, (hB.cell (p := ⟨b, 1, none⟩) hb).trans c1, (hB.cell (p := ⟨b, 2, none⟩) hb).trans c2, (hB.cell (p := ⟨b, 3, none⟩) hb).trans c3⟩
/-- A table that lies lower than where something is written. -/
theorem tb_lo {w w1 w2 : World} {B : Nat} {t : M.Tb} {p : Tp} (h : TbIn w t p) (hb : w.heap.size ≤ B) (h1 : Below w.heap.size w w1) (h2 : Below B w1 w2) : TbIn w2 t p :=
  h.below (h1.trans (h2.mono hb))

set_option maxHeartbeats 16000000 in
set_option maxRecDepth 100000 in
theorem orderHigh_any (t : M.Tb) (p : Tp) (y : Option Addr) (c : Nat) (l : List (Fin 256)) (w : World) (ht : TbIn w t p) (_hn : y = none → c = 0) (hy : CelSl bytV w y l) :
    Calls Try.prog 5 #[tbV t p, .slice y l.length c] w fun e w' => e = .returned (.bool true) ∧ Below w.heap.size w w' := by
  have hmx : Try.prog.follows .mixedOrders = true := by kernel_rfl
  have HX := Lib.hid (tbBox (t := t) (p := p) (box_new w (tbA t p) 26))
  have HT := Lib.hid (ht.below (below1 w (.cells (tbA t p) 26)))
  have HY := Lib.hid (hy.below (below1 w (.cells (tbA t p) 26)))
  have HBW := Lib.hid (below1 w (.cells (tbA t p) 26))
  have HC := Lib.hid (right_any t p (w.alloc (.cells (tbA t p) 26)) HT.out)
  obtain ⟨c0, c1, c2, c3⟩ := HX.out
  clear ht hy _hn
  go_enter Try.func5, Try.ntmps5
  go_wp2_with fail
  have hz0 : w.heap.size < (w.alloc (.cells (tbA t p) 26)).heap.size := by simp
  generalize hW0 : w.alloc (.cells (tbA t p) 26) = W0 at *
  clear hW0
  refine HC.out.mono ?_
  rintro e w1 ⟨⟨hs, hl, rfl⟩ | rfl, hB1⟩
  rotate_left
  · have HB := Lib.hid hB1
    clear c0 c1 c2 c3 hB1 HC
    go_wp2_with fail
    refine (awake_any _).mono ?_
    rintro e w2 ⟨rfl, hB2⟩
    have hB := below2 HBW.out (below2 HB.out hB2)
    clear hB2
    go_wp2_with fail
    go_ret
    exact ⟨rfl, hB⟩
  have HB := Lib.hid hB1
  have HS := Lib.hid hs
  have HL := Lib.hid hl
  have HG := Lib.hid (M.lat_good hl)
  clear c0 c1 c2 c3 hB1 HC hs hl
  by_cases h40 : l.length ≤ 40
  rotate_left
  · have m1 : decide ((40 : Int) < (l.length : Int)) = true := decide_eq_true (by omega)
    have m2 : (40 : Int) < (l.length : Int) := by omega
    clear h40
    go_wp2_with fail
    refine (awake_any _).mono ?_
    rintro e w2 ⟨rfl, hB2⟩
    have hB := below2 HBW.out (below2 HB.out hB2)
    clear hB2
    go_wp2_with fail
    go_ret
    exact ⟨rfl, hB⟩
  have m1 : decide ((40 : Int) < (l.length : Int)) = false := decide_eq_false (by omega)
  have m2 : ¬ (40 : Int) < (l.length : Int) := by omega
  obtain ⟨c0, c1, c2, c3⟩ := HX.out.below HB.out
  go_wp2_with fail
  refine (copy_any t p _ HS.out.h1 HS.out.h2 HS.out.h3 HS.out.h4 (HT.out.below HB.out)).mono ?_
  rintro e w3 ⟨p', rfl, ht3, hB3⟩
  have HB := Lib.hid (below2 HB.out hB3)
  have HT3 := Lib.hid ht3
  clear c0 c1 c2 c3 hB3 ht3
  go_wp2_with fail
  refine (heightX_any t p' w3 HS.out.h4 HT3.out).mono ?_
  rintro e w4 ⟨⟨h, _⟩ | ⟨_, h, _⟩ | ⟨_, k, hk, rfl⟩, hB4⟩
  · exact absurd HL.out.1 h
  · exact absurd (by rw [HL.out.2]) h
  have HB := Lib.hid (below2 HB.out hB4)
  have HK := Lib.hid hk
  have hkn := M.isH_lt HG.out hk
  have h12 := HG.out.form.twelve
  have h01 := HG.out.form.one
  clear hB4 hk m1 m2
  have k1 : decide ((k : Int) < 0) = false := decide_eq_false (by omega)
  have k2 : ¬ (k : Int) < 0 := by omega
  have k3 : decide ((t.elems.length : Int) ≤ (k : Int)) = false := decide_eq_false (by omega)
  have k4 : ¬ (t.elems.length : Int) ≤ (k : Int) := by omega
  obtain ⟨c0, c1, c2, c3⟩ := HX.out.below HB.out
  go_wp2_with fail
  clear k1 k2 k3 k4
  go_loopw [7, 8, 9] (fun av mv i wr => ∃ j a m : Nat, j ≤ l.length ∧ m ≤ j ∧ a < t.elems.length ∧ i = .int .i64 j ∧ av = .int .i64 a ∧ mv = .int .i64 m ∧ Hid (M.chn t m 0 a) ∧ Hid (Below W0.heap.size W0 wr)) (fun _ _ i _ => l.length - (intOf i).toNat)
  case atStart => exact ⟨0, 0, 0, by omega, by omega, h01, rfl, rfl, rfl, Lib.hid rfl, HB⟩
  case round =>
    clear c0 c1 c2 c3 HB
    rename World => wr
    obtain ⟨j, a, m, hj, hmj, ha, rfl, rfl, rfl, HCH, HB⟩ := hrel
    obtain ⟨c0, c1, c2, c3⟩ := HX.out.below HB.out
    by_cases hjl : j < l.length
    · have n1 : (j : Int) < (l.length : Int) := by omega
      have n2 : (0 : Int) ≤ (j : Int) := by omega
      obtain ⟨gb, go, ey, hat⟩ := HY.out.at hjl
      subst ey
      have r1 := cell_below (hat.at_ j hjl) HB.out
      have HR := Lib.hid r1
      clear hat r1
      obtain ⟨x, hx⟩ : ∃ x : Nat, (l[j]).val = x := ⟨_, rfl⟩
      have HXV := Lib.hid hx
      have hx256 : x < 256 := by rw [← hx]; exact (l[j]).isLt
      clear hx
      have hmod : x % t.elems.length < t.elems.length := Nat.mod_lt _ h01
      have HJL := Lib.hid (M.jnD_is HG.out ha hmod).lt
      have HCJ := Lib.hid (show M.jnD t a (x % t.elems.length) ≠ a → M.chn t (m + 1) 0 (M.jnD t a (x % t.elems.length)) from fun h => M.chn_join HG.out ha hmod h HCH.out)
      have HJC := Lib.hid (show ∀ W, TbIn W t p → Calls Try.prog 19 #[tbV t p, .int .i64 a, .int .i64 (x % t.elems.length : Nat)] W fun e w' => e = .returned (.int .i64 (M.jnD t a (x % t.elems.length) : Nat)) ∧ Below W.heap.size W w' from fun W hW => lawJoin_any t p a _ W HS.out HL.out ha hmod hW)
      have e1 : Int.tmod (x : Int) (t.elems.length : Int) = ((x % t.elems.length : Nat) : Int) := by rw [Int.tmod_eq_emod_of_nonneg (by omega)]; rfl
      have e2 : ((x : Int) % (t.elems.length : Int)) = ((x % t.elems.length : Nat) : Int) := rfl
      have E1 := Lib.hid e1
      have E2 := Lib.hid e2
      clear e1 e2
      generalize hjn : M.jnD t a (x % t.elems.length) = jn at *
      generalize hxm : x % t.elems.length = xm at *
      clear hjn hxm
      go_upto_region 10 with fail
      have hS := And.intro (cell_below HR.out (Below.refl _ _).drew) (And.intro (HX.out.below (below2 HB.out (Below.refl _ _).drew)) (below2 HB.out (Below.refl _ _).drew))
      clear c0 c1 c2 c3
      refine wp_region_held (S := (fun W => W.cell? ⟨gb, go + j, none⟩ = some (bytV l[j]) ∧ TbBox W w.heap.size t p ∧ Below W0.heap.size W0 W)) hmx ?_
      change wpAnyH _ _ _ _ _ _ _ _ (wr).drew
      refine wpAnyH_take (i := 0) (v := tbV t p) rfl (by kernel_rfl) (by kernel_rfl) (by kernel_rfl) (fun _ _ _ h => h) (Or.inl ⟨by kernel_rfl, ?_⟩) hS ?_
      · intro W' hSw
        obtain ⟨r1, ⟨s0, s1, s2, s3⟩, _⟩ := hSw
        go_simp
      dsimp only [List.getElem_toArray, List.getElem_cons_zero, List.getElem_cons_succ, Act.put, List.setIfInBounds_toArray, List.set_cons_zero, List.set_cons_succ]
      refine wpAnyH_take (i := 1) (v := .int .i64 a) rfl (by kernel_rfl) (by kernel_rfl) (by kernel_rfl) (fun _ _ _ h => h) (Or.inl ⟨by kernel_rfl, ?_⟩) hS ?_
      · intro W' hSw
        obtain ⟨r1, ⟨s0, s1, s2, s3⟩, _⟩ := hSw
        go_simp
      dsimp only [List.getElem_toArray, List.getElem_cons_zero, List.getElem_cons_succ, Act.put, List.setIfInBounds_toArray, List.set_cons_zero, List.set_cons_succ]
      refine wpAnyH_take (i := 2) (v := .slice (some ⟨gb, go, none⟩) l.length c) rfl (by kernel_rfl) (by kernel_rfl) (by kernel_rfl) (fun _ _ _ h => h) (Or.inl ⟨by kernel_rfl, ?_⟩) hS ?_
      · intro W' hSw
        obtain ⟨r1, ⟨s0, s1, s2, s3⟩, _⟩ := hSw
        go_simp
      dsimp only [List.getElem_toArray, List.getElem_cons_zero, List.getElem_cons_succ, Act.put, List.setIfInBounds_toArray, List.set_cons_zero, List.set_cons_succ]
      refine wpAnyH_take (i := 3) (v := .int .i64 j) rfl (by kernel_rfl) (by kernel_rfl) (by kernel_rfl) (fun _ _ _ h => h) (Or.inl ⟨by kernel_rfl, ?_⟩) hS ?_
      · intro W' hSw
        obtain ⟨r1, ⟨s0, s1, s2, s3⟩, _⟩ := hSw
        go_simp
      dsimp only [List.getElem_toArray, List.getElem_cons_zero, List.getElem_cons_succ, Act.put, List.setIfInBounds_toArray, List.set_cons_zero, List.set_cons_succ]
      refine wpAnyH_take (i := 4) (v := .pointer (some ⟨gb, go + j, none⟩)) rfl (by kernel_rfl) (by kernel_rfl) (by kernel_rfl) (fun _ _ _ h => h) (Or.inl ⟨by kernel_rfl, ?_⟩) hS ?_
      · intro W' hSw
        obtain ⟨r1, ⟨s0, s1, s2, s3⟩, _⟩ := hSw
        have n1 : (j : Int) < (l.length : Int) := by omega
        have n2 : (0 : Int) ≤ (j : Int) := by omega
        go_simp
      dsimp only [List.getElem_toArray, List.getElem_cons_zero, List.getElem_cons_succ, Act.put, List.setIfInBounds_toArray, List.set_cons_zero, List.set_cons_succ]
      refine wpAnyH_take (i := 5) (v := bytV l[j]) rfl (by kernel_rfl) (by kernel_rfl) (by kernel_rfl) (fun _ _ _ h => h) (Or.inl ⟨by kernel_rfl, ?_⟩) hS ?_
      · intro W' hSw
        obtain ⟨r1, ⟨s0, s1, s2, s3⟩, _⟩ := hSw
        go_simp
      dsimp only [List.getElem_toArray, List.getElem_cons_zero, List.getElem_cons_succ, Act.put, List.setIfInBounds_toArray, List.set_cons_zero, List.set_cons_succ]
      refine wpAnyH_take (i := 6) (v := .int .i64 x) rfl (by kernel_rfl) (by kernel_rfl) (by kernel_rfl) (fun _ _ _ h => h) (Or.inl ⟨by kernel_rfl, ?_⟩) hS ?_
      · intro W' hSw
        obtain ⟨r1, ⟨s0, s1, s2, s3⟩, _⟩ := hSw
        have q : (((l[j]).val : Nat) : Int) = (x : Int) := by rw [HXV.out]
        have q1 : (x : Int) ≤ 255 := by omega
        have q2 : (0 : Int) ≤ (x : Int) := by omega
        go_simp
        exact IntWalk.i64_in _ (by omega)
      dsimp only [List.getElem_toArray, List.getElem_cons_zero, List.getElem_cons_succ, Act.put, List.setIfInBounds_toArray, List.set_cons_zero, List.set_cons_succ]
      refine wpAnyH_take (i := 7) (v := .pointer (some ⟨w.heap.size, 1, none⟩)) rfl (by kernel_rfl) (by kernel_rfl) (by kernel_rfl) (fun _ _ _ h => h) (Or.inl ⟨by kernel_rfl, ?_⟩) hS ?_
      · intro W' hSw
        obtain ⟨r1, ⟨s0, s1, s2, s3⟩, _⟩ := hSw
        go_simp
      dsimp only [List.getElem_toArray, List.getElem_cons_zero, List.getElem_cons_succ, Act.put, List.setIfInBounds_toArray, List.set_cons_zero, List.set_cons_succ]
      refine wpAnyH_take (i := 8) (v := .slice p.ea t.elems.length p.ec) rfl (by kernel_rfl) (by kernel_rfl) (by kernel_rfl) (fun _ _ _ h => h) (Or.inl ⟨by kernel_rfl, ?_⟩) hS ?_
      · intro W' hSw
        obtain ⟨r1, ⟨s0, s1, s2, s3⟩, _⟩ := hSw
        go_simp
      dsimp only [List.getElem_toArray, List.getElem_cons_zero, List.getElem_cons_succ, Act.put, List.setIfInBounds_toArray, List.set_cons_zero, List.set_cons_succ]
      refine wpAnyH_take (i := 9) (v := .int .i64 t.elems.length) rfl (by kernel_rfl) (by kernel_rfl) (by kernel_rfl) (fun _ _ _ h => h) (Or.inl ⟨by kernel_rfl, ?_⟩) hS ?_
      · intro W' hSw
        obtain ⟨r1, ⟨s0, s1, s2, s3⟩, _⟩ := hSw
        go_simp
      dsimp only [List.getElem_toArray, List.getElem_cons_zero, List.getElem_cons_succ, Act.put, List.setIfInBounds_toArray, List.set_cons_zero, List.set_cons_succ]
      refine wpAnyH_take (i := 10) (v := .int .i64 xm) rfl (by kernel_rfl) (by kernel_rfl) (by kernel_rfl) (fun _ _ _ h => h) (Or.inl ⟨by kernel_rfl, ?_⟩) hS ?_
      · intro W' hSw
        obtain ⟨r1, ⟨s0, s1, s2, s3⟩, _⟩ := hSw
        have q := E1.out
        have q' := E2.out
        have q1 : (x : Int) ≤ 255 := by omega
        have q2 : (0 : Int) ≤ (x : Int) := by omega
        have q3 : ((t.elems.length : Int) == 0) = false := by rw [beq_eq_false_iff_ne]; omega
        have q4 : (0 : Int) < (t.elems.length : Int) := by omega
        have q5 : (t.elems.length : Int) ≤ 12 := by omega
        have q6 : ¬ t.elems = [] := fun h => by rw [h] at h01; simp at h01
        go_simp
      dsimp only [List.getElem_toArray, List.getElem_cons_zero, List.getElem_cons_succ, Act.put, List.setIfInBounds_toArray, List.set_cons_zero, List.set_cons_succ]
      refine wpAnyH_call 11 19 #[tbV t p, .int .i64 a, .int .i64 xm] (.int .i64 jn) (by kernel_rfl) rfl (by kernel_rfl) (by kernel_rfl) (HJC.out _ (HT.out.below hS.2.2)) ?_
      intro w11 hB
      have hS := And.intro (cell_below hS.1 hB) (And.intro (hS.2.1.below hB) (below2 hS.2.2 hB))
      clear hB
      refine ⟨⟨hS.1, hS.2.1, hS.2.2⟩, ?_⟩
      dsimp only [List.getElem_toArray, List.getElem_cons_zero, List.getElem_cons_succ, Act.put, List.setIfInBounds_toArray, List.set_cons_zero, List.set_cons_succ]
      refine wpAnyH_take (i := 12) (v := .int .i64 jn) rfl (by kernel_rfl) (by kernel_rfl) (by kernel_rfl) (fun _ _ _ h => h) (Or.inl ⟨by kernel_rfl, ?_⟩) hS ?_
      · intro W' hSw
        obtain ⟨r1, ⟨s0, s1, s2, s3⟩, _⟩ := hSw
        go_simp
      dsimp only [List.getElem_toArray, List.getElem_cons_zero, List.getElem_cons_succ, Act.put, List.setIfInBounds_toArray, List.set_cons_zero, List.set_cons_succ]
      try simp only [List.setIfInBounds_toArray, List.set_cons_succ, List.set_cons_zero]
      refine wpAnyH_done (by kernel_rfl) ?_ _
      have HB := Lib.hid hS.2.2
      clear hS HJC HR HXV E1 E2
      have j1 : decide ((jn : Int) < 0) = false := decide_eq_false (by omega)
      have j2 : ¬ (jn : Int) < 0 := by omega
      have j3 := HJL.out
      by_cases hja : jn = a
      · subst hja
        have j4 : ((jn : Int) == (jn : Int)) = true := by simp
        have j5 : ((jn : Int) != (jn : Int)) = false := by simp
        go_wp2_with fail
        go_roundw
        case rel => exact ⟨j + 1, jn, m, by omega, by omega, ha, by go_num, rfl, rfl, HCH, HB⟩
        case measure => simp [intOf]; omega
      · have HCH := Lib.hid (HCJ.out hja)
        have j4 : ((jn : Int) == (a : Int)) = false := by rw [beq_eq_false_iff_ne]; omega
        have j5 : ((jn : Int) != (a : Int)) = true := by rw [bne_iff_ne]; omega
        clear hja
        go_wp2_with fail
        go_roundw
        case rel => exact ⟨j + 1, jn, m + 1, by omega, by omega, j3, by go_num, rfl, by go_num, HCH, HB⟩
        case measure => simp [intOf]; omega
    · obtain rfl : j = l.length := by omega
      have m1 : decide ((l.length : Int) < (l.length : Int)) = false := decide_eq_false (by omega)
      have hmk : m ≤ k := M.chn_ends HK.out HCH.out
      have m2 : decide ((k : Int) < (m : Int)) = false := decide_eq_false (by omega)
      have m3 : ¬ (k : Int) < (m : Int) := by omega
      have hmi := make_ints t.elems.length (by omega)
      go_wp2_with fail
      clear hmi m1 m2 m3
      have HNM := Lib.hid (nmB_new wr t.elems.length)
      have HBN := Lib.hid (below2 HB.out (below1 wr (.cells (nmsA t.elems.length) 3)))
      have HX := Lib.hid (HX.out.below HBN.out)
      have hzB : wr.heap.size < (wr.alloc (.cells (nmsA t.elems.length) 3)).heap.size := by simp
      have hlo : W0.heap.size ≤ wr.heap.size := HB.out.size
      clear c0 c1 c2 c3 HB HCH
      generalize hW1 : wr.alloc (.cells (nmsA t.elems.length) 3) = W1 at *
      generalize hBg : wr.heap.size = B at *
      clear hW1 hBg wr
      obtain ⟨c0, c1, c2, c3⟩ := HX.out
      go_loopw [12] (fun i wr => ∃ (r : Nat) (S : Nat → Nat), r ≤ t.elems.length ∧ i = .int .i64 r ∧ Hid (M.Rnd t S r 0 0) ∧ Hid (NmB wr B t.elems.length S) ∧ Hid (Below B W1 wr)) (fun i _ => t.elems.length - (intOf i).toNat)
      case atStart => exact ⟨0, _, by omega, rfl, Lib.hid (M.Rnd.start t), HNM, Lib.hid (Below.refl _ _)⟩
      case round =>
        clear c0 c1 c2 c3
        rename World => wr
        obtain ⟨r, S, hr, rfl, HR, HN, HB⟩ := hrel
        by_cases hrl : r < t.elems.length
        · have n1 : (r : Int) < (t.elems.length : Int) := by omega
          have n2 : (0 : Int) ≤ (r : Int) := by omega
          go_wp2_with fail
          go_loopw [13] (fun i wr => ∃ (a : Nat) (S : Nat → Nat), a ≤ t.elems.length ∧ i = .int .i64 a ∧ Hid (M.Rnd t S r a 0) ∧ Hid (NmB wr B t.elems.length S) ∧ Hid (Below B W1 wr)) (fun i _ => t.elems.length - (intOf i).toNat)
          case atStart => exact ⟨0, S, by omega, rfl, HR, HN, HB⟩
          case round =>
            clear HR HN HB
            rename World => wo
            obtain ⟨a, S, ha, rfl, HR, HN, HB⟩ := hrel
            by_cases hal : a < t.elems.length
            · have a1 : (a : Int) < (t.elems.length : Int) := by omega
              have a2 : (0 : Int) ≤ (a : Int) := by omega
              go_wp2_with fail
              go_loopw [14] (fun i wr => ∃ (x : Nat) (S : Nat → Nat), x ≤ t.elems.length ∧ i = .int .i64 x ∧ Hid (M.Rnd t S r a x) ∧ Hid (NmB wr B t.elems.length S) ∧ Hid (Below B W1 wr)) (fun i _ => t.elems.length - (intOf i).toNat)
              case atStart => exact ⟨0, S, by omega, rfl, HR, HN, HB⟩
              case round =>
                clear HR HN HB
                rename World => wq
                obtain ⟨x, S, hx, rfl, HR, HN, HB⟩ := hrel
                obtain ⟨c0, c1, c2, c3⟩ := bx_lo HX.out (show w.heap.size < B by omega) HB.out
                have hzq := HB.out.size
                by_cases hxl : x < t.elems.length
                · have x1 : (x : Int) < (t.elems.length : Int) := by omega
                  have x2 : (0 : Int) ≤ (x : Int) := by omega
                  by_cases hxa : x = a
                  · subst hxa
                    have HR := Lib.hid (HR.out.no (HG.out.nb.cyc x hxl))
                    have x3 : ((x : Int) == (x : Int)) = true := by simp
                    have x4 : ((x : Int) != (x : Int)) = false := by simp
                    go_wp2_with fail
                    go_roundw
                    case rel => exact ⟨x + 1, S, by omega, by go_num, HR, HN, HB⟩
                    case measure => simp [intOf]; omega
                  · have x3 : ((x : Int) == (a : Int)) = false := by rw [beq_eq_false_iff_ne]; omega
                    have x4 : ((x : Int) != (a : Int)) = true := by rw [bne_iff_ne]; omega
                    have HTW := Lib.hid (tb_lo HT.out (show W0.heap.size ≤ B by omega) HBN.out HB.out)
                    go_wp2_with fail
                    refine (lawBelow_any t p x a _ HS.out HG.out.form hxl hal HTW.out).mono ?_
                    rintro e w11 ⟨rfl, hB11⟩
                    have HN := Lib.hid (HN.out.below wq.heap.size (by omega) hB11)
                    have HB := Lib.hid (HB.out.trans (hB11.mono (by omega)))
                    have hzq2 := hB11.size
                    clear c0 c1 c2 c3 hB11 HTW
                    cases hlb : M.leB t x a with
                    | false =>
                      have HR := Lib.hid (HR.out.no (by
                        have q := M.leB_or HG.out.form hxl (b := a)
                        rw [hlb] at q
                        cases hs : M.stB t x a with
                        | false => rfl
                        | true => rw [hs, Bool.or_true] at q; cases q))
                      clear hlb
                      go_wp2_with fail
                      go_roundw
                      case rel => exact ⟨x + 1, S, by omega, by go_num, HR, HN, HB⟩
                      case measure => simp [intOf]; omega
                    | true =>
                      have hst := M.le_st HG.out.form hxl hlb (fun e => hxa e.symm)
                      have HR2 := Lib.hid (HR.out.yes hxl hst)
                      have s1 := HR.out.le HG.out hal
                      have s2 := HR.out.le HG.out hxl
                      have y1 := (HN.out a hal).1
                      have y2 := (HN.out x hxl).1
                      have y3 := (HN.out a hal).2
                      clear hlb hst
                      generalize hsa : S a = sa at *
                      generalize hsx : S x = sx at *
                      have HSA := Lib.hid hsa
                      have HSX := Lib.hid hsx
                      clear hsa hsx
                      have e1 : IntKind.i64.wrap ((sx : Int) + 1) = ((sx + 1 : Nat) : Int) := by rw [IntWalk.i64_in _ (by omega)]; rfl
                      have e2 : (max (sa : Int) ((sx : Int) + 1)) = ((max sa (sx + 1) : Nat) : Int) := by omega
                      have e3 : (max (sa : Int) ((sx + 1 : Nat) : Int)) = ((max sa (sx + 1) : Nat) : Int) := by omega
                      go_wp2_with fail
                      refine still_tail 13 (by kernel_rfl) (by kernel_rfl) ?_
                      simp only [List.take_succ_cons, List.take_zero, List.drop_succ_cons, List.drop_zero]
                      repeat still_step
                      refine wpStill_nil ?_
                      go_wp2_with fail
                      go_roundw
                      case rel =>
                        refine ⟨x + 1, _, by omega, by go_num, HR2, Lib.hid ?_, Lib.hid ?_⟩
                        · exact (HN.out.below (B + 1) (by omega) (Below.refl _ _).drew).set a (max sa (sx + 1))
                        · exact (HB.out.drew).setCell (p := ⟨B, a, none⟩) (Nat.le_refl _) _
                      case measure => simp [intOf]; omega
                · obtain rfl : x = t.elems.length := by omega
                  have x1 : decide ((t.elems.length : Int) < (t.elems.length : Int)) = false := decide_eq_false (by omega)
                  have HR := Lib.hid (HR.out.nextA HG.out.form hal)
                  go_wp2_with fail
                  go_roundw
                  case rel => exact ⟨a + 1, S, by omega, by go_num, HR, HN, HB⟩
                  case measure => simp [intOf]; omega
            · obtain rfl : a = t.elems.length := by omega
              have a1 : decide ((t.elems.length : Int) < (t.elems.length : Int)) = false := decide_eq_false (by omega)
              have HR := Lib.hid HR.out.nextR
              go_wp2_with fail
              go_roundw
              case rel => exact ⟨r + 1, S, by omega, by go_num, HR, HN, HB⟩
              case measure => simp [intOf]; omega
        · obtain rfl : r = t.elems.length := by omega
          have n1 : decide ((t.elems.length : Int) < (t.elems.length : Int)) = false := decide_eq_false (by omega)
          have HFI := Lib.hid (M.high_fin HG.out HK.out HR.out)
          have HSL := Lib.hid (show ∀ x, x < t.elems.length → S x ≤ 12 from fun x hx => HR.out.le HG.out hx)
          go_wp2_with fail
          go_loopw [15, 16] (fun v i wo => ∃ a : Nat, a ≤ t.elems.length ∧ i = .int .i64 a ∧ v = .int .i64 (M.mxS S a : Nat) ∧ M.mxS S a ≤ 12 ∧ Hid (NmB wo B t.elems.length S) ∧ Hid (Below B W1 wo)) (fun _ i _ => t.elems.length - (intOf i).toNat)
          case atStart => exact ⟨0, by omega, rfl, rfl, by show 0 ≤ 12; omega, HN, HB⟩
          case round =>
            clear HN HB
            rename World => wo
            obtain ⟨a, ha, rfl, rfl, hmx12, HN, HB⟩ := hrel
            by_cases hal : a < t.elems.length
            · have a1 : (a : Int) < (t.elems.length : Int) := by omega
              have a2 : (0 : Int) ≤ (a : Int) := by omega
              have y1 := (HN.out a hal).1
              have s1 := HSL.out a hal
              have HM := Lib.hid (show M.mxS S (a + 1) = max (M.mxS S a) (S a) from rfl)
              generalize hsa : S a = sa at *
              generalize hsm : M.mxS S a = sm at *
              clear hsa hsm
              have e2 : (max (sm : Int) (sa : Int)) = ((max sm sa : Nat) : Int) := by omega
              go_wp2_with fail
              go_roundw
              case rel => exact ⟨a + 1, by omega, by go_num, by rw [HM.out], by rw [HM.out]; omega, HN, HB⟩
              case measure => simp [intOf]; omega
            · obtain rfl : a = t.elems.length := by omega
              have a1 : decide ((t.elems.length : Int) < (t.elems.length : Int)) = false := decide_eq_false (by omega)
              rw [HFI.out]
              have a3 : ((k : Int) == (k : Int)) = true := by simp
              have HBF := Lib.hid (below2 HBW.out (HBN.out.trans (HB.out.mono (by omega))))
              go_wp2_with fail
              refine (awake_any _).mono ?_
              rintro e w21 ⟨rfl, hB21⟩
              have hB := below2 HBF.out hB21
              clear hB21
              go_wp2_with fail
              go_ret
              exact ⟨rfl, hB⟩
end Go.Proofs.Ythacjdlohmkpoaa
