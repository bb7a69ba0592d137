/- DERIVED. The statement on parts, walked. -/
import Derived.Test.YthacjdlohmkpoaaOrdDbC
import Derived.Test.YthacjdlohmkpoaaOrdDfC
import Derived.Test.YthacjdlohmkpoaaGr10
import Derived.Test.YthacjdlohmkpoaaGr27
namespace Go.Proofs.Ythacjdlohmkpoaa
open Go.RowKit

namespace M
/-- The parts of the first elements. -/
def ptA (t : Tb) (k : Nat) : List (List Int) := (List.range k).map (prtl t)
theorem ptA_len (t : Tb) (k : Nat) : (ptA t k).length = k := by simp [ptA]
theorem ptA_next (t : Tb) (k : Nat) : ptA t (k + 1) = ptA t k ++ [prtl t k] := by simp [ptA, List.range_succ]
theorem ptA_at (t : Tb) (k i : Nat) (h : i < (ptA t k).length) : (ptA t k)[i] = prtl t i := by simp [ptA]
theorem prtl_len (t : Tb) (a : Nat) : (prtl t a).length ≤ 12 := listN_le _ _
end M
theorem intsInfoF : (Try.prog.info? 36).map (fun i => (i.zero, i.size, i.bytes)) = some (some (.slice none 0 0), 1, 24) := by kernel_rfl
/-- The parts of all elements as they lie in memory. -/
structure PtAt (w : World) (t : M.Tb) (g : Nat) : Prop where
  at_ : ∀ a, a < t.elems.length → ∃ ad c, w.cell? ⟨g, a, none⟩ = some (.slice ad (M.prtl t a).length c) ∧ IntSl w ad (M.prtl t a)
theorem PtAt.below {w w' : World} {t : M.Tb} {g : Nat} (h : PtAt w t g) (hB : Below w.heap.size w w') : PtAt w' t g :=
  ⟨fun a ha => by
    obtain ⟨ad, c, h1, h2⟩ := h.at_ a ha
    exact ⟨ad, c, cell_below h1 hB, h2.below hB⟩⟩
theorem ptAt_of {w : World} {t : M.Tb} {base : Nat} {v : Value} (h : NestOwn (Value.int .i64) w base 36 v (M.ptA t t.elems.length)) (hn : 1 ≤ t.elems.length) : ∃ g c, v = .slice (some ⟨g, 0, none⟩) t.elems.length c ∧ PtAt w t g := by
  rcases NestOwn.lies h with ⟨_, h0⟩ | ⟨g, c, rfl, hc, _, hat⟩
  · have := M.ptA_len t t.elems.length
    rw [h0] at this; simp at this; omega
  · rw [M.ptA_len]
    refine ⟨g, c, rfl, ⟨fun a ha => ?_⟩⟩
    obtain ⟨ad, c2, q1, _, _, q4⟩ := hat.at_ a (by rw [M.ptA_len]; exact ha)
    rw [M.ptA_at, Nat.zero_add] at q1
    rw [M.ptA_at] at q4
    exact ⟨ad, c2, q1, q4⟩

set_option maxHeartbeats 32000000 in
set_option maxRecDepth 100000 in
theorem orderParted_any (t : M.Tb) (p : Tp) (w : World) (ht : TbIn w t p) : Calls Try.prog 4 #[tbV t p] w fun e w' => e = .returned (.bool true) ∧ Below w.heap.size w w' := by
  have hmx : Try.prog.follows .mixedOrders = true := by kernel_rfl
  obtain ⟨i0, hi, hz0, hz1, hz2⟩ := info_parts intsInfoF
  have HI0 := Lib.hid hi
  have HZ0 := Lib.hid hz0
  have HZ1 := Lib.hid hz1
  have HZ2 := Lib.hid hz2
  clear hi hz0 hz1 hz2
  have HX := Lib.hid (tbBox (t := t) (p := p) (box_new w (tbA t p) 26))
  have HT := Lib.hid (ht.below (below1 w (.cells (tbA t p) 26)))
  have HBW := Lib.hid (below1 w (.cells (tbA t p) 26))
  have HC := Lib.hid (right_any t p (w.alloc (.cells (tbA t p) 26)) HT.out)
  obtain ⟨c0, c1, c2, c3⟩ := HX.out
  clear ht
  go_enter Try.func4, Try.ntmps4
  go_wp2_with fail
  generalize hW0 : w.alloc (.cells (tbA t p) 26) = W0 at *
  clear hW0
  refine HC.out.mono ?_
  rintro e w1 ⟨⟨hs, hl, rfl⟩ | rfl, hB1⟩
  rotate_left
  · have HB := Lib.hid hB1
    clear c0 c1 c2 c3 hB1 HC
    go_wp2_with fail
    refine (awake_any _).mono ?_
    rintro e w2 ⟨rfl, hB2⟩
    have hB := below2 HBW.out (below2 HB.out hB2)
    clear hB2
    go_wp2_with fail
    go_ret
    exact ⟨rfl, hB⟩
  have HB := Lib.hid hB1
  have HS := Lib.hid hs
  have HL := Lib.hid hl
  have HG := Lib.hid (M.lat_good hl)
  have h12 := HG.out.form.twelve
  have h01 := HG.out.form.one
  clear c0 c1 c2 c3 hB1 HC hs hl
  obtain ⟨c0, c1, c2, c3⟩ := HX.out.below HB.out
  go_wp2_with fail
  clear c0 c1 c2 c3
  have HX := Lib.hid (HX.out.below HB.out)
  have HT := Lib.hid (HT.out.below HB.out)
  have HBW := Lib.hid (below2 HBW.out HB.out)
  clear HB
  go_loopw [4, 5] (fun v i wr => ∃ a : Nat, a ≤ t.elems.length ∧ i = .int .i64 a ∧ Hid (NestOwn (Value.int .i64) wr w1.heap.size 36 v (M.ptA t a)) ∧ Hid (Below w1.heap.size w1 wr)) (fun _ i _ => t.elems.length - (intOf i).toNat)
  case atStart => exact ⟨0, by omega, rfl, Lib.hid (NestOwn.nil _ _ _ _), Lib.hid (Below.refl _ _)⟩
  case round =>
    rename World => wr
    obtain ⟨a, ha, rfl, HO, HB⟩ := hrel
    obtain ⟨c0, c1, c2, c3⟩ := HX.out.below HB.out
    obtain ⟨va, vc, hv⟩ := NestOwn.slice HO.out
    rw [M.ptA_len] at hv
    subst hv
    by_cases hal : a < t.elems.length
    · have a1 : (a : Int) < (t.elems.length : Int) := by omega
      have a2 : (0 : Int) ≤ (a : Int) := by omega
      go_wp2_with fail
      refine (copy_any t p _ HS.out.h1 HS.out.h2 HS.out.h3 HS.out.h4 (HT.out.below HB.out)).mono ?_
      rintro e w3 ⟨p', rfl, ht3, hB3⟩
      have HO := Lib.hid (HO.out.below hB3)
      have HB := Lib.hid (below2 HB.out hB3)
      have HT3 := Lib.hid ht3
      clear c0 c1 c2 c3 hB3 ht3
      go_wp2_with fail
      refine (partsF_any t p' a w3 HS.out.h4 HT3.out).mono ?_
      rintro e w4 ⟨⟨h, _⟩ | ⟨_, h, _⟩ | ⟨_, h, _⟩ | ⟨_, _, la, lc, rfl, h1, h2, h3, h4⟩, hB4⟩
      · exact absurd HL.out.1 h
      · exact absurd (by rw [HL.out.2]) h
      · rw [inB_nat hal] at h; cases h
      rw [Int.toNat_natCast] at h2 h3 ⊢
      have HL1 := Lib.hid h1
      have HL2 := Lib.hid (show (M.prtl t a).length ≤ lc from h2)
      have HL3 := Lib.hid (show IntSl w4 la (M.prtl t a) from h3)
      have HNE := Lib.hid (show ∀ b off, la = some ⟨b, off, none⟩ → some b ≠ (Value.slice va a vc).ownBlock from fun b off e q => by
        obtain ⟨vals, k1, _⟩ := HO.out
        have := (own_lt k1 q.symm).2
        have := h4 b off e
        omega)
      have HO := Lib.hid (HO.out.below hB4)
      have HB := Lib.hid (below2 HB.out hB4)
      have HXc := Lib.hid (HX.out.below HB.out)
      have HTc := Lib.hid (HT.out.below HB.out)
      rw [show M.listN (M.prt t a) 12 = M.prtl t a from rfl]
      have HJ := Lib.hid (M.prtl_join HG.out hal)
      have HM := Lib.hid (show ∀ x, x ∈ M.prtl t a → ∃ n : Nat, x = n ∧ n < t.elems.length ∧ n ≠ 0 from fun x hx => by
        obtain ⟨q1, q2⟩ := M.prtl_mem HG.out hx
        exact ⟨x.toNat, by omega, q2.pr.lt, q2.pr.pos⟩)
      have hle := M.prtl_len t a
      clear h1 h2 h3 h4 hB4
      generalize hLg : M.prtl t a = L at *
      have HLG := Lib.hid hLg
      clear hLg
      go_wp2_with fail
      go_loopw [8, 9] (fun v i wo => ∃ k : Nat, k ≤ L.length ∧ i = .int .i64 k ∧ v = .int .i64 (M.jf t (L.take k) : Nat) ∧ M.jf t (L.take k) < t.elems.length ∧ Hid (Below w4.heap.size w4 wo)) (fun _ i _ => L.length - (intOf i).toNat)
      case atStart => exact ⟨0, by omega, rfl, rfl, h01, Lib.hid (Below.refl _ _)⟩
      case round =>
        rename World => wo
        obtain ⟨k, hk, rfl, rfl, hjl, HQ⟩ := hrel
        obtain ⟨c0, c1, c2, c3⟩ := HXc.out.below HQ.out
        by_cases hkl : k < L.length
        · have k1 : (k : Int) < (L.length : Int) := by omega
          have k2 : (0 : Int) ≤ (k : Int) := by omega
          obtain ⟨gb, go, ela, hat⟩ := HL3.out.at hkl
          subst ela
          obtain ⟨x, hx, hxl, hx0⟩ := HM.out _ (List.getElem_mem hkl)
          have r1 := cell_below (hat.at_ k hkl) HQ.out
          rw [hx] at r1
          have HR := Lib.hid r1
          have HNX := Lib.hid (show M.jf t (L.take (k + 1)) = M.jnD t (M.jf t (L.take k)) x by rw [List.take_succ_eq_append_getElem hkl, M.jf_snoc, hx, Int.toNat_natCast])
          have HJL := Lib.hid (M.jnD_is HG.out hjl hxl).lt
          have HIC := Lib.hid (show ∀ W, Calls Try.prog 18 #[tbV t p, .int .i64 x] W fun e w' => e = .returned (.bool true) ∧ Below W.heap.size W w' from fun W => by
            have q := isElem_any t p x W HS.out.h1
            rw [inB_nat hxl] at q; exact q)
          have HJC := Lib.hid (show ∀ W, TbIn W t p → Calls Try.prog 19 #[tbV t p, .int .i64 (M.jf t (L.take k) : Nat), .int .i64 x] W fun e w' => e = .returned (.int .i64 (M.jnD t (M.jf t (L.take k)) x : Nat)) ∧ Below W.heap.size W w' from fun W hW => lawJoin_any t p _ _ W HS.out HL.out hjl hxl hW)
          clear hat r1 hx
          generalize hjv : M.jf t (L.take k) = jv at *
          generalize hjn : M.jnD t jv x = jn at *
          clear hjv hjn
          have x0 : ((x : Int) == 0) = false := by rw [beq_eq_false_iff_ne]; omega
          have X0 := Lib.hid x0
          clear x0
          go_upto_region 15 with fail
          have hS := And.intro (cell_below HR.out (Below.refl _ _).drew) (And.intro (HXc.out.below (below2 HQ.out (Below.refl _ _).drew)) (below2 HQ.out (Below.refl _ _).drew))
          clear c0 c1 c2 c3
          refine wp_region_held (S := (fun W => W.cell? ⟨gb, go + k, none⟩ = some (.int .i64 (x : Nat)) ∧ TbBox W w.heap.size t p ∧ Below w4.heap.size w4 W)) hmx ?_
          change wpAnyH _ _ _ _ _ _ _ _ (wo).drew
          refine wpAnyH_take (i := 0) (v := tbV t p) rfl (by kernel_rfl) (by kernel_rfl) (by kernel_rfl) (fun _ _ _ h => h) (Or.inl ⟨by kernel_rfl, ?_⟩) hS ?_
          · intro W' hSw
            obtain ⟨r1, ⟨s0, s1, s2, s3⟩, _⟩ := hSw
            go_simp
          dsimp only [List.getElem_toArray, List.getElem_cons_zero, List.getElem_cons_succ, Act.put, List.setIfInBounds_toArray, List.set_cons_zero, List.set_cons_succ]
          refine wpAnyH_take (i := 1) (v := .slice (some ⟨gb, go, none⟩) L.length lc) rfl (by kernel_rfl) (by kernel_rfl) (by kernel_rfl) (fun _ _ _ h => h) (Or.inl ⟨by kernel_rfl, ?_⟩) hS ?_
          · intro W' hSw
            obtain ⟨r1, ⟨s0, s1, s2, s3⟩, _⟩ := hSw
            go_simp
          dsimp only [List.getElem_toArray, List.getElem_cons_zero, List.getElem_cons_succ, Act.put, List.setIfInBounds_toArray, List.set_cons_zero, List.set_cons_succ]
          refine wpAnyH_take (i := 2) (v := .int .i64 k) rfl (by kernel_rfl) (by kernel_rfl) (by kernel_rfl) (fun _ _ _ h => h) (Or.inl ⟨by kernel_rfl, ?_⟩) hS ?_
          · intro W' hSw
            obtain ⟨r1, ⟨s0, s1, s2, s3⟩, _⟩ := hSw
            go_simp
          dsimp only [List.getElem_toArray, List.getElem_cons_zero, List.getElem_cons_succ, Act.put, List.setIfInBounds_toArray, List.set_cons_zero, List.set_cons_succ]
          refine wpAnyH_take (i := 3) (v := .pointer (some ⟨gb, go + k, none⟩)) rfl (by kernel_rfl) (by kernel_rfl) (by kernel_rfl) (fun _ _ _ h => h) (Or.inl ⟨by kernel_rfl, ?_⟩) hS ?_
          · intro W' hSw
            obtain ⟨r1, ⟨s0, s1, s2, s3⟩, _⟩ := hSw
            go_simp
          dsimp only [List.getElem_toArray, List.getElem_cons_zero, List.getElem_cons_succ, Act.put, List.setIfInBounds_toArray, List.set_cons_zero, List.set_cons_succ]
          refine wpAnyH_take (i := 4) (v := .int .i64 x) rfl (by kernel_rfl) (by kernel_rfl) (by kernel_rfl) (fun _ _ _ h => h) (Or.inl ⟨by kernel_rfl, ?_⟩) hS ?_
          · intro W' hSw
            obtain ⟨r1, ⟨s0, s1, s2, s3⟩, _⟩ := hSw
            go_simp
          dsimp only [List.getElem_toArray, List.getElem_cons_zero, List.getElem_cons_succ, Act.put, List.setIfInBounds_toArray, List.set_cons_zero, List.set_cons_succ]
          refine wpAnyH_call 5 18 #[tbV t p, .int .i64 x] (.bool true) (by kernel_rfl) rfl (by kernel_rfl) (by kernel_rfl) (HIC.out _) ?_
          intro w11 hB
          have hS := And.intro (cell_below hS.1 hB) (And.intro (hS.2.1.below hB) (below2 hS.2.2 hB))
          clear hB
          refine ⟨⟨hS.1, hS.2.1, hS.2.2⟩, ?_⟩
          dsimp only [List.getElem_toArray, List.getElem_cons_zero, List.getElem_cons_succ, Act.put, List.setIfInBounds_toArray, List.set_cons_zero, List.set_cons_succ]
          refine wpAnyH_take (i := 6) (v := .bool false) rfl (by kernel_rfl) (by kernel_rfl) (by kernel_rfl) (fun _ _ _ h => h) (Or.inl ⟨by kernel_rfl, ?_⟩) hS ?_
          · intro W' hSw
            obtain ⟨r1, ⟨s0, s1, s2, s3⟩, _⟩ := hSw
            go_simp
          dsimp only [List.getElem_toArray, List.getElem_cons_zero, List.getElem_cons_succ, Act.put, List.setIfInBounds_toArray, List.set_cons_zero, List.set_cons_succ]
          refine wpAnyH_take (i := 7) (v := .bool false) rfl (by kernel_rfl) (by kernel_rfl) (by kernel_rfl) (fun _ _ _ h => h) (Or.inl ⟨by kernel_rfl, ?_⟩) hS ?_
          · intro W' hSw
            obtain ⟨r1, ⟨s0, s1, s2, s3⟩, _⟩ := hSw
            go_simp
          dsimp only [List.getElem_toArray, List.getElem_cons_zero, List.getElem_cons_succ, Act.put, List.setIfInBounds_toArray, List.set_cons_zero, List.set_cons_succ]
          refine wpAnyH_take (i := 8) (v := .slice (some ⟨gb, go, none⟩) L.length lc) rfl (by kernel_rfl) (by kernel_rfl) (by kernel_rfl) (fun _ _ _ h => h) (Or.inl ⟨by kernel_rfl, ?_⟩) hS ?_
          · intro W' hSw
            obtain ⟨r1, ⟨s0, s1, s2, s3⟩, _⟩ := hSw
            go_simp
          dsimp only [List.getElem_toArray, List.getElem_cons_zero, List.getElem_cons_succ, Act.put, List.setIfInBounds_toArray, List.set_cons_zero, List.set_cons_succ]
          refine wpAnyH_take (i := 9) (v := .int .i64 k) rfl (by kernel_rfl) (by kernel_rfl) (by kernel_rfl) (fun _ _ _ h => h) (Or.inl ⟨by kernel_rfl, ?_⟩) hS ?_
          · intro W' hSw
            obtain ⟨r1, ⟨s0, s1, s2, s3⟩, _⟩ := hSw
            go_simp
          dsimp only [List.getElem_toArray, List.getElem_cons_zero, List.getElem_cons_succ, Act.put, List.setIfInBounds_toArray, List.set_cons_zero, List.set_cons_succ]
          refine wpAnyH_take (i := 10) (v := .pointer (some ⟨gb, go + k, none⟩)) rfl (by kernel_rfl) (by kernel_rfl) (by kernel_rfl) (fun _ _ _ h => h) (Or.inl ⟨by kernel_rfl, ?_⟩) hS ?_
          · intro W' hSw
            obtain ⟨r1, ⟨s0, s1, s2, s3⟩, _⟩ := hSw
            go_simp
          dsimp only [List.getElem_toArray, List.getElem_cons_zero, List.getElem_cons_succ, Act.put, List.setIfInBounds_toArray, List.set_cons_zero, List.set_cons_succ]
          refine wpAnyH_take (i := 11) (v := .int .i64 x) rfl (by kernel_rfl) (by kernel_rfl) (by kernel_rfl) (fun _ _ _ h => h) (Or.inl ⟨by kernel_rfl, ?_⟩) hS ?_
          · intro W' hSw
            obtain ⟨r1, ⟨s0, s1, s2, s3⟩, _⟩ := hSw
            go_simp
          dsimp only [List.getElem_toArray, List.getElem_cons_zero, List.getElem_cons_succ, Act.put, List.setIfInBounds_toArray, List.set_cons_zero, List.set_cons_succ]
          refine wpAnyH_take (i := 12) (v := .bool false) rfl (by kernel_rfl) (by kernel_rfl) (by kernel_rfl) (fun _ _ _ h => h) (Or.inl ⟨by kernel_rfl, ?_⟩) hS ?_
          · intro W' hSw
            obtain ⟨r1, ⟨s0, s1, s2, s3⟩, _⟩ := hSw
            have q := X0.out
            go_simp
          dsimp only [List.getElem_toArray, List.getElem_cons_zero, List.getElem_cons_succ, Act.put, List.setIfInBounds_toArray, List.set_cons_zero, List.set_cons_succ]
          refine wpAnyH_take (i := 13) (v := .bool false) rfl (by kernel_rfl) (by kernel_rfl) (by kernel_rfl) (fun _ _ _ h => h) (Or.inl ⟨by kernel_rfl, ?_⟩) hS ?_
          · intro W' hSw
            obtain ⟨r1, ⟨s0, s1, s2, s3⟩, _⟩ := hSw
            go_simp
          dsimp only [List.getElem_toArray, List.getElem_cons_zero, List.getElem_cons_succ, Act.put, List.setIfInBounds_toArray, List.set_cons_zero, List.set_cons_succ]
          try simp only [List.setIfInBounds_toArray, List.set_cons_succ, List.set_cons_zero]
          refine wpAnyH_done (by kernel_rfl) ?_ _
          have HQ := Lib.hid hS.2.2
          have HR := Lib.hid hS.1
          obtain ⟨c0, c1, c2, c3⟩ := hS.2.1
          clear hS
          go_upto_region 17 with fail
          have hS := And.intro (cell_below HR.out (Below.refl _ _).drew) (And.intro (HXc.out.below (below2 HQ.out (Below.refl _ _).drew)) (below2 HQ.out (Below.refl _ _).drew))
          clear c0 c1 c2 c3
          refine wp_region_held (S := (fun W => W.cell? ⟨gb, go + k, none⟩ = some (.int .i64 (x : Nat)) ∧ TbBox W w.heap.size t p ∧ Below w4.heap.size w4 W)) hmx ?_
          change wpAnyH _ _ _ _ _ _ _ _ (w11).drew
          refine wpAnyH_take (i := 0) (v := tbV t p) rfl (by kernel_rfl) (by kernel_rfl) (by kernel_rfl) (fun _ _ _ h => h) (Or.inl ⟨by kernel_rfl, ?_⟩) hS ?_
          · intro W' hSw
            obtain ⟨r1, ⟨s0, s1, s2, s3⟩, _⟩ := hSw
            go_simp
          dsimp only [List.getElem_toArray, List.getElem_cons_zero, List.getElem_cons_succ, Act.put, List.setIfInBounds_toArray, List.set_cons_zero, List.set_cons_succ]
          refine wpAnyH_take (i := 1) (v := .int .i64 jv) rfl (by kernel_rfl) (by kernel_rfl) (by kernel_rfl) (fun _ _ _ h => h) (Or.inl ⟨by kernel_rfl, ?_⟩) hS ?_
          · intro W' hSw
            obtain ⟨r1, ⟨s0, s1, s2, s3⟩, _⟩ := hSw
            go_simp
          dsimp only [List.getElem_toArray, List.getElem_cons_zero, List.getElem_cons_succ, Act.put, List.setIfInBounds_toArray, List.set_cons_zero, List.set_cons_succ]
          refine wpAnyH_take (i := 2) (v := .slice (some ⟨gb, go, none⟩) L.length lc) rfl (by kernel_rfl) (by kernel_rfl) (by kernel_rfl) (fun _ _ _ h => h) (Or.inl ⟨by kernel_rfl, ?_⟩) hS ?_
          · intro W' hSw
            obtain ⟨r1, ⟨s0, s1, s2, s3⟩, _⟩ := hSw
            go_simp
          dsimp only [List.getElem_toArray, List.getElem_cons_zero, List.getElem_cons_succ, Act.put, List.setIfInBounds_toArray, List.set_cons_zero, List.set_cons_succ]
          refine wpAnyH_take (i := 3) (v := .int .i64 k) rfl (by kernel_rfl) (by kernel_rfl) (by kernel_rfl) (fun _ _ _ h => h) (Or.inl ⟨by kernel_rfl, ?_⟩) hS ?_
          · intro W' hSw
            obtain ⟨r1, ⟨s0, s1, s2, s3⟩, _⟩ := hSw
            go_simp
          dsimp only [List.getElem_toArray, List.getElem_cons_zero, List.getElem_cons_succ, Act.put, List.setIfInBounds_toArray, List.set_cons_zero, List.set_cons_succ]
          refine wpAnyH_take (i := 4) (v := .pointer (some ⟨gb, go + k, none⟩)) rfl (by kernel_rfl) (by kernel_rfl) (by kernel_rfl) (fun _ _ _ h => h) (Or.inl ⟨by kernel_rfl, ?_⟩) hS ?_
          · intro W' hSw
            obtain ⟨r1, ⟨s0, s1, s2, s3⟩, _⟩ := hSw
            go_simp
          dsimp only [List.getElem_toArray, List.getElem_cons_zero, List.getElem_cons_succ, Act.put, List.setIfInBounds_toArray, List.set_cons_zero, List.set_cons_succ]
          refine wpAnyH_take (i := 5) (v := .int .i64 x) rfl (by kernel_rfl) (by kernel_rfl) (by kernel_rfl) (fun _ _ _ h => h) (Or.inl ⟨by kernel_rfl, ?_⟩) hS ?_
          · intro W' hSw
            obtain ⟨r1, ⟨s0, s1, s2, s3⟩, _⟩ := hSw
            go_simp
          dsimp only [List.getElem_toArray, List.getElem_cons_zero, List.getElem_cons_succ, Act.put, List.setIfInBounds_toArray, List.set_cons_zero, List.set_cons_succ]
          refine wpAnyH_call 6 19 #[tbV t p, .int .i64 jv, .int .i64 x] (.int .i64 jn) (by kernel_rfl) rfl (by kernel_rfl) (by kernel_rfl) (HJC.out _ (HTc.out.below hS.2.2)) ?_
          intro w12 hB
          have hS := And.intro (cell_below hS.1 hB) (And.intro (hS.2.1.below hB) (below2 hS.2.2 hB))
          clear hB
          refine ⟨⟨hS.1, hS.2.1, hS.2.2⟩, ?_⟩
          dsimp only [List.getElem_toArray, List.getElem_cons_zero, List.getElem_cons_succ, Act.put, List.setIfInBounds_toArray, List.set_cons_zero, List.set_cons_succ]
          refine wpAnyH_take (i := 7) (v := .int .i64 jn) rfl (by kernel_rfl) (by kernel_rfl) (by kernel_rfl) (fun _ _ _ h => h) (Or.inl ⟨by kernel_rfl, ?_⟩) hS ?_
          · intro W' hSw
            obtain ⟨r1, ⟨s0, s1, s2, s3⟩, _⟩ := hSw
            go_simp
          dsimp only [List.getElem_toArray, List.getElem_cons_zero, List.getElem_cons_succ, Act.put, List.setIfInBounds_toArray, List.set_cons_zero, List.set_cons_succ]
          try simp only [List.setIfInBounds_toArray, List.set_cons_succ, List.set_cons_zero]
          refine wpAnyH_done (by kernel_rfl) ?_ _
          have HQ := Lib.hid hS.2.2
          clear hS HR HIC HJC X0
          have j1 : decide ((jn : Int) < 0) = false := decide_eq_false (by omega)
          have j2 : ¬ (jn : Int) < 0 := by omega
          have j3 := HJL.out
          go_wp2_with fail
          go_roundw
          case rel => exact ⟨k + 1, by omega, by go_num, by rw [HNX.out], by rw [HNX.out]; exact j3, HQ⟩
          case measure => simp [intOf]; omega
        · obtain rfl : k = L.length := by omega
          have k1 : decide ((L.length : Int) < (L.length : Int)) = false := decide_eq_false (by omega)
          rw [List.take_length, HJ.out]
          have j4 : ((a : Int) == (a : Int)) = true := by simp
          have j5 : ((a : Int) != (a : Int)) = false := by simp
          have HOn := Lib.hid ((HO.out.below HQ.out).below (below1 wo (.cells #[.slice la L.length lc] 36)))
          have HBn := Lib.hid (belowA (below2 HB.out HQ.out) (.cells #[.slice la L.length lc] 36))
          have HL3 := Lib.hid ((HL3.out.below HQ.out).below (below1 wo (.cells #[.slice la L.length lc] 36)))
          have HN := Lib.hid (M.ptA_next t a)
          have HPL := Lib.hid (M.ptA_len t a)
          have hzo := HBn.out.size
          clear c0 c1 c2 c3
          have hi := HI0.out
          have hz0 := HZ0.out
          have hz1 := HZ1.out
          have hz2 := HZ2.out
          go_wp2_with (at_builtin; refine wpList_append_nest (f := Value.int .i64) _ rfl _ _ 23 rfl 36 i0 Try.underlying23 hi hz0 hz1 hz2 w1.heap.size (.slice va a vc) (M.ptA t a) rfl HOn.out ?c1 ⟨wo.heap.size, 0, none⟩ 1 la L lc rfl ?c2 ?c3 ?c4 ?c5 ?c6 ?_)
          case c1 => exact hzo
          case c2 =>
            show World.cell? _ ⟨wo.heap.size, 0, none⟩ = _
            rw [World.cell?_alloc_at _ _ _ _ rfl]; rfl
          case c3 => rw [HPL.out]; omega
          case c4 => exact HL1.out
          case c5 => exact HL2.out
          case c6 =>
            rcases HL3.out with q | ⟨b, off, e, q⟩
            · exact Or.inl q
            · exact Or.inr ⟨b, off, e, HNE.out b off e, q⟩
          intro g' c' w3' hn3 hb3
          rw [HPL.out] at hn3 ⊢
          have HN3 := Lib.hid hn3
          have HBf := Lib.hid (HBn.out.trans hb3)
          clear hn3 hb3 hi hz0 hz1 hz2
          go_wp2_with fail
          go_roundw
          case rel =>
            refine ⟨a + 1, by omega, by go_num, Lib.hid ?_, HBf⟩
            rw [HN.out, HLG.out]
            exact HN3.out
          case measure => simp [intOf]; omega
    · obtain rfl : a = t.elems.length := by omega
      have a1 : decide ((t.elems.length : Int) < (t.elems.length : Int)) = false := decide_eq_false (by omega)
      obtain ⟨g, gc, ev, hpt⟩ := ptAt_of HO.out h01
      have ev' : va = some ⟨g, 0, none⟩ := by injection ev
      subst ev'
      have HPT := Lib.hid hpt
      clear hpt ev HO
      go_wp2_with fail
      refine (copy_any t p _ HS.out.h1 HS.out.h2 HS.out.h3 HS.out.h4 (HT.out.below HB.out)).mono ?_
      rintro e w3 ⟨p', rfl, ht3, hB3⟩
      have HPT := Lib.hid (HPT.out.below hB3)
      have HB := Lib.hid (below2 HB.out hB3)
      have HT3 := Lib.hid ht3
      clear c0 c1 c2 c3 hB3 ht3 a1
      go_wp2_with fail
      refine (primesF_any t p' w3 HS.out.h4 HT3.out).mono ?_
      rintro e w4 ⟨⟨h, _⟩ | ⟨_, h, _⟩ | ⟨_, lb, lc, rfl, h2, h3⟩, hB4⟩
      · exact absurd HL.out.1 h
      · exact absurd (by rw [HL.out.2]) h
      have HL2 := Lib.hid h2
      have HL3 := Lib.hid h3
      have HPT := Lib.hid (HPT.out.below hB4)
      have HB := Lib.hid (below2 HB.out hB4)
      have HX := Lib.hid (HX.out.below HB.out)
      have HT := Lib.hid (HT.out.below HB.out)
      have HBW := Lib.hid (below2 HBW.out HB.out)
      have HM := Lib.hid (show ∀ x, x ∈ M.listN (M.prm t) 12 → ∃ n : Nat, x = n ∧ n < t.elems.length ∧ M.prtl t n = [(n : Int)] from fun x hx => by
        obtain ⟨q1, q2⟩ := M.prml_mem HG.out hx
        exact ⟨x.toNat, by omega, q2.lt, M.prtl_own HG.out q2⟩)
      have hle : (M.listN (M.prm t) 12).length ≤ 12 := M.listN_le _ _
      clear h2 h3 hB4 HB HT3
      generalize M.listN (M.prm t) 12 = L at *
      go_wp2_with fail
      go_loopw [12] (fun i wo => ∃ k : Nat, k ≤ L.length ∧ i = .int .i64 k ∧ Hid (Below w4.heap.size w4 wo)) (fun i _ => L.length - (intOf i).toNat)
      case atStart => exact ⟨0, by omega, rfl, Lib.hid (Below.refl _ _)⟩
      case round =>
        rename World => wo
        obtain ⟨k, hk, rfl, HQ⟩ := hrel
        obtain ⟨c0, c1, c2, c3⟩ := HX.out.below HQ.out
        by_cases hkl : k < L.length
        · have k1 : (k : Int) < (L.length : Int) := by omega
          have k2 : (0 : Int) ≤ (k : Int) := by omega
          have hlc := HL2.out
          obtain ⟨gb, go, ela, hat⟩ := HL3.out.at hkl
          subst ela
          obtain ⟨x, hx, hxl, hpx⟩ := HM.out _ (List.getElem_mem hkl)
          have x1 : (x : Int) < (t.elems.length : Int) := by omega
          have x2 : (0 : Int) ≤ (x : Int) := by omega
          have r1 := cell_below (hat.at_ k hkl) HQ.out
          rw [hx] at r1
          obtain ⟨ad, ac, r2, r3⟩ := (HPT.out.below HQ.out).at_ x hxl
          rw [hpx] at r2 r3
          have HR1 := Lib.hid r1
          have HR2 := Lib.hid (show wo.cell? ⟨g, x, none⟩ = some (.slice ad 1 ac) from r2)
          have HR3 := Lib.hid r3
          have HR4 := Lib.hid (show IntSl wo (some ⟨gb, go + k, none⟩) [(x : Int)] from Or.inr ⟨gb, go + k, rfl, Nat.lt_of_lt_of_le hat.lt HQ.out.size, fun i hi => by
            have : i = 0 := by simpa using hi
            subst this
            exact r1⟩)
          have HIC := Lib.hid (show ∀ W, Calls Try.prog 18 #[tbV t p, .int .i64 x] W fun e w' => e = .returned (.bool true) ∧ Below W.heap.size W w' from fun W => by
            have q := isElem_any t p x W HS.out.h1
            rw [inB_nat hxl] at q; exact q)
          have HSC := Lib.hid (show ∀ W, IntSl W ad [(x : Int)] → IntSl W (some ⟨gb, go + k, none⟩) [(x : Int)] → Calls Try.prog 21 #[.slice ad 1 ac, .slice (some ⟨gb, go + k, none⟩) 1 (lc - k)] W fun e w' => e = .returned (.bool true) ∧ Below W.heap.size W w' from fun W q1 q2 => by
            have q := sameInts_any ad (some ⟨gb, go + k, none⟩) ac (lc - k) [(x : Int)] [(x : Int)] W (by simp) q1 q2
            rw [decide_eq_true rfl] at q; exact q)
          clear hat r1 r2 r3 hx hpx
          go_upto_region 29 with fail
          have hS := And.intro (And.intro (cell_below HR1.out (Below.refl _ _).drew) (cell_below HR2.out (Below.refl _ _).drew)) (And.intro (HX.out.below (below2 HQ.out (Below.refl _ _).drew)) (Below.refl wo.heap.size wo).drew)
          clear c0 c1 c2 c3
          refine wp_region_held (S := (fun W => (W.cell? ⟨gb, go + k, none⟩ = some (.int .i64 (x : Nat)) ∧ W.cell? ⟨g, x, none⟩ = some (.slice ad 1 ac)) ∧ TbBox W w.heap.size t p ∧ Below wo.heap.size wo W)) hmx ?_
          change wpAnyH _ _ _ _ _ _ _ _ (wo).drew
          refine wpAnyH_take (i := 0) (v := tbV t p) rfl (by kernel_rfl) (by kernel_rfl) (by kernel_rfl) (fun _ _ _ h => h) (Or.inl ⟨by kernel_rfl, ?_⟩) hS ?_
          · intro W' hSw
            obtain ⟨⟨r1, r2⟩, ⟨s0, s1, s2, s3⟩, _⟩ := hSw
            go_simp
          dsimp only [List.getElem_toArray, List.getElem_cons_zero, List.getElem_cons_succ, Act.put, List.setIfInBounds_toArray, List.set_cons_zero, List.set_cons_succ]
          refine wpAnyH_take (i := 1) (v := .slice (some ⟨gb, go, none⟩) L.length lc) rfl (by kernel_rfl) (by kernel_rfl) (by kernel_rfl) (fun _ _ _ h => h) (Or.inl ⟨by kernel_rfl, ?_⟩) hS ?_
          · intro W' hSw
            obtain ⟨⟨r1, r2⟩, ⟨s0, s1, s2, s3⟩, _⟩ := hSw
            go_simp
          dsimp only [List.getElem_toArray, List.getElem_cons_zero, List.getElem_cons_succ, Act.put, List.setIfInBounds_toArray, List.set_cons_zero, List.set_cons_succ]
          refine wpAnyH_take (i := 2) (v := .int .i64 k) rfl (by kernel_rfl) (by kernel_rfl) (by kernel_rfl) (fun _ _ _ h => h) (Or.inl ⟨by kernel_rfl, ?_⟩) hS ?_
          · intro W' hSw
            obtain ⟨⟨r1, r2⟩, ⟨s0, s1, s2, s3⟩, _⟩ := hSw
            go_simp
          dsimp only [List.getElem_toArray, List.getElem_cons_zero, List.getElem_cons_succ, Act.put, List.setIfInBounds_toArray, List.set_cons_zero, List.set_cons_succ]
          refine wpAnyH_take (i := 3) (v := .pointer (some ⟨gb, go + k, none⟩)) rfl (by kernel_rfl) (by kernel_rfl) (by kernel_rfl) (fun _ _ _ h => h) (Or.inl ⟨by kernel_rfl, ?_⟩) hS ?_
          · intro W' hSw
            obtain ⟨⟨r1, r2⟩, ⟨s0, s1, s2, s3⟩, _⟩ := hSw
            go_simp
          dsimp only [List.getElem_toArray, List.getElem_cons_zero, List.getElem_cons_succ, Act.put, List.setIfInBounds_toArray, List.set_cons_zero, List.set_cons_succ]
          refine wpAnyH_take (i := 4) (v := .int .i64 x) rfl (by kernel_rfl) (by kernel_rfl) (by kernel_rfl) (fun _ _ _ h => h) (Or.inl ⟨by kernel_rfl, ?_⟩) hS ?_
          · intro W' hSw
            obtain ⟨⟨r1, r2⟩, ⟨s0, s1, s2, s3⟩, _⟩ := hSw
            go_simp
          dsimp only [List.getElem_toArray, List.getElem_cons_zero, List.getElem_cons_succ, Act.put, List.setIfInBounds_toArray, List.set_cons_zero, List.set_cons_succ]
          refine wpAnyH_call 5 18 #[tbV t p, .int .i64 x] (.bool true) (by kernel_rfl) rfl (by kernel_rfl) (by kernel_rfl) (HIC.out _) ?_
          intro w11 hB
          have hS := And.intro (And.intro (cell_below hS.1.1 hB) (cell_below hS.1.2 hB)) (And.intro (hS.2.1.below hB) (below2 hS.2.2 hB))
          clear hB
          refine ⟨⟨hS.1, hS.2.1, hS.2.2⟩, ?_⟩
          dsimp only [List.getElem_toArray, List.getElem_cons_zero, List.getElem_cons_succ, Act.put, List.setIfInBounds_toArray, List.set_cons_zero, List.set_cons_succ]
          refine wpAnyH_take (i := 6) (v := .bool false) rfl (by kernel_rfl) (by kernel_rfl) (by kernel_rfl) (fun _ _ _ h => h) (Or.inl ⟨by kernel_rfl, ?_⟩) hS ?_
          · intro W' hSw
            obtain ⟨⟨r1, r2⟩, ⟨s0, s1, s2, s3⟩, _⟩ := hSw
            go_simp
          dsimp only [List.getElem_toArray, List.getElem_cons_zero, List.getElem_cons_succ, Act.put, List.setIfInBounds_toArray, List.set_cons_zero, List.set_cons_succ]
          refine wpAnyH_take (i := 7) (v := .bool false) rfl (by kernel_rfl) (by kernel_rfl) (by kernel_rfl) (fun _ _ _ h => h) (Or.inl ⟨by kernel_rfl, ?_⟩) hS ?_
          · intro W' hSw
            obtain ⟨⟨r1, r2⟩, ⟨s0, s1, s2, s3⟩, _⟩ := hSw
            go_simp
          dsimp only [List.getElem_toArray, List.getElem_cons_zero, List.getElem_cons_succ, Act.put, List.setIfInBounds_toArray, List.set_cons_zero, List.set_cons_succ]
          refine wpAnyH_take (i := 8) (v := .slice (some ⟨g, 0, none⟩) t.elems.length vc) rfl (by kernel_rfl) (by kernel_rfl) (by kernel_rfl) (fun _ _ _ h => h) (Or.inl ⟨by kernel_rfl, ?_⟩) hS ?_
          · intro W' hSw
            obtain ⟨⟨r1, r2⟩, ⟨s0, s1, s2, s3⟩, _⟩ := hSw
            go_simp
          dsimp only [List.getElem_toArray, List.getElem_cons_zero, List.getElem_cons_succ, Act.put, List.setIfInBounds_toArray, List.set_cons_zero, List.set_cons_succ]
          refine wpAnyH_take (i := 9) (v := .slice (some ⟨gb, go, none⟩) L.length lc) rfl (by kernel_rfl) (by kernel_rfl) (by kernel_rfl) (fun _ _ _ h => h) (Or.inl ⟨by kernel_rfl, ?_⟩) hS ?_
          · intro W' hSw
            obtain ⟨⟨r1, r2⟩, ⟨s0, s1, s2, s3⟩, _⟩ := hSw
            go_simp
          dsimp only [List.getElem_toArray, List.getElem_cons_zero, List.getElem_cons_succ, Act.put, List.setIfInBounds_toArray, List.set_cons_zero, List.set_cons_succ]
          refine wpAnyH_take (i := 10) (v := .int .i64 k) rfl (by kernel_rfl) (by kernel_rfl) (by kernel_rfl) (fun _ _ _ h => h) (Or.inl ⟨by kernel_rfl, ?_⟩) hS ?_
          · intro W' hSw
            obtain ⟨⟨r1, r2⟩, ⟨s0, s1, s2, s3⟩, _⟩ := hSw
            go_simp
          dsimp only [List.getElem_toArray, List.getElem_cons_zero, List.getElem_cons_succ, Act.put, List.setIfInBounds_toArray, List.set_cons_zero, List.set_cons_succ]
          refine wpAnyH_take (i := 11) (v := .pointer (some ⟨gb, go + k, none⟩)) rfl (by kernel_rfl) (by kernel_rfl) (by kernel_rfl) (fun _ _ _ h => h) (Or.inl ⟨by kernel_rfl, ?_⟩) hS ?_
          · intro W' hSw
            obtain ⟨⟨r1, r2⟩, ⟨s0, s1, s2, s3⟩, _⟩ := hSw
            go_simp
          dsimp only [List.getElem_toArray, List.getElem_cons_zero, List.getElem_cons_succ, Act.put, List.setIfInBounds_toArray, List.set_cons_zero, List.set_cons_succ]
          refine wpAnyH_take (i := 12) (v := .int .i64 x) rfl (by kernel_rfl) (by kernel_rfl) (by kernel_rfl) (fun _ _ _ h => h) (Or.inl ⟨by kernel_rfl, ?_⟩) hS ?_
          · intro W' hSw
            obtain ⟨⟨r1, r2⟩, ⟨s0, s1, s2, s3⟩, _⟩ := hSw
            go_simp
          dsimp only [List.getElem_toArray, List.getElem_cons_zero, List.getElem_cons_succ, Act.put, List.setIfInBounds_toArray, List.set_cons_zero, List.set_cons_succ]
          refine wpAnyH_take (i := 13) (v := .pointer (some ⟨g, x, none⟩)) rfl (by kernel_rfl) (by kernel_rfl) (by kernel_rfl) (fun _ _ _ h => h) (Or.inl ⟨by kernel_rfl, ?_⟩) hS ?_
          · intro W' hSw
            obtain ⟨⟨r1, r2⟩, ⟨s0, s1, s2, s3⟩, _⟩ := hSw
            go_simp
          dsimp only [List.getElem_toArray, List.getElem_cons_zero, List.getElem_cons_succ, Act.put, List.setIfInBounds_toArray, List.set_cons_zero, List.set_cons_succ]
          refine wpAnyH_take (i := 14) (v := .slice ad 1 ac) rfl (by kernel_rfl) (by kernel_rfl) (by kernel_rfl) (fun _ _ _ h => h) (Or.inl ⟨by kernel_rfl, ?_⟩) hS ?_
          · intro W' hSw
            obtain ⟨⟨r1, r2⟩, ⟨s0, s1, s2, s3⟩, _⟩ := hSw
            go_simp
          dsimp only [List.getElem_toArray, List.getElem_cons_zero, List.getElem_cons_succ, Act.put, List.setIfInBounds_toArray, List.set_cons_zero, List.set_cons_succ]
          refine wpAnyH_take (i := 15) (v := .slice (some ⟨gb, go, none⟩) L.length lc) rfl (by kernel_rfl) (by kernel_rfl) (by kernel_rfl) (fun _ _ _ h => h) (Or.inl ⟨by kernel_rfl, ?_⟩) hS ?_
          · intro W' hSw
            obtain ⟨⟨r1, r2⟩, ⟨s0, s1, s2, s3⟩, _⟩ := hSw
            go_simp
          dsimp only [List.getElem_toArray, List.getElem_cons_zero, List.getElem_cons_succ, Act.put, List.setIfInBounds_toArray, List.set_cons_zero, List.set_cons_succ]
          refine wpAnyH_take (i := 16) (v := .int .i64 k) rfl (by kernel_rfl) (by kernel_rfl) (by kernel_rfl) (fun _ _ _ h => h) (Or.inl ⟨by kernel_rfl, ?_⟩) hS ?_
          · intro W' hSw
            obtain ⟨⟨r1, r2⟩, ⟨s0, s1, s2, s3⟩, _⟩ := hSw
            go_simp
          dsimp only [List.getElem_toArray, List.getElem_cons_zero, List.getElem_cons_succ, Act.put, List.setIfInBounds_toArray, List.set_cons_zero, List.set_cons_succ]
          refine wpAnyH_take (i := 17) (v := .int .i64 k) rfl (by kernel_rfl) (by kernel_rfl) (by kernel_rfl) (fun _ _ _ h => h) (Or.inl ⟨by kernel_rfl, ?_⟩) hS ?_
          · intro W' hSw
            obtain ⟨⟨r1, r2⟩, ⟨s0, s1, s2, s3⟩, _⟩ := hSw
            go_simp
          dsimp only [List.getElem_toArray, List.getElem_cons_zero, List.getElem_cons_succ, Act.put, List.setIfInBounds_toArray, List.set_cons_zero, List.set_cons_succ]
          refine wpAnyH_take (i := 18) (v := .int .i64 ((k : Int) + 1)) rfl (by kernel_rfl) (by kernel_rfl) (by kernel_rfl) (fun _ _ _ h => h) (Or.inl ⟨by kernel_rfl, ?_⟩) hS ?_
          · intro W' hSw
            obtain ⟨⟨r1, r2⟩, ⟨s0, s1, s2, s3⟩, _⟩ := hSw
            go_simp
            exact IntWalk.i64_in _ (by omega)
          dsimp only [List.getElem_toArray, List.getElem_cons_zero, List.getElem_cons_succ, Act.put, List.setIfInBounds_toArray, List.set_cons_zero, List.set_cons_succ]
          refine wpAnyH_take (i := 19) (v := .slice (some ⟨gb, go + k, none⟩) 1 (lc - k)) rfl (by kernel_rfl) (by kernel_rfl) (by kernel_rfl) (fun _ _ _ h => h) (Or.inl ⟨by kernel_rfl, ?_⟩) hS ?_
          · intro W' hSw
            obtain ⟨⟨r1, r2⟩, ⟨s0, s1, s2, s3⟩, _⟩ := hSw
            have q1 : (k : Int) + 1 ≤ (lc : Int) := by omega
            have q2 : (k : Int) ≤ (k : Int) + 1 := by omega
            have q3 : ¬ lc = k := by omega
            have q4 : (0 : Int) ≤ (k : Int) + 1 := by omega
            have q5 : ((k : Int) + 1).toNat = k + 1 := by omega
            go_simp
          dsimp only [List.getElem_toArray, List.getElem_cons_zero, List.getElem_cons_succ, Act.put, List.setIfInBounds_toArray, List.set_cons_zero, List.set_cons_succ]
          refine wpAnyH_call 20 21 #[.slice ad 1 ac, .slice (some ⟨gb, go + k, none⟩) 1 (lc - k)] (.bool true) (by kernel_rfl) rfl (by kernel_rfl) (by kernel_rfl) (HSC.out _ (HR3.out.below hS.2.2) (HR4.out.below hS.2.2)) ?_
          intro w12 hB
          have hS := And.intro (And.intro (cell_below hS.1.1 hB) (cell_below hS.1.2 hB)) (And.intro (hS.2.1.below hB) (below2 hS.2.2 hB))
          clear hB
          refine ⟨⟨hS.1, hS.2.1, hS.2.2⟩, ?_⟩
          dsimp only [List.getElem_toArray, List.getElem_cons_zero, List.getElem_cons_succ, Act.put, List.setIfInBounds_toArray, List.set_cons_zero, List.set_cons_succ]
          refine wpAnyH_take (i := 21) (v := .bool false) rfl (by kernel_rfl) (by kernel_rfl) (by kernel_rfl) (fun _ _ _ h => h) (Or.inl ⟨by kernel_rfl, ?_⟩) hS ?_
          · intro W' hSw
            obtain ⟨⟨r1, r2⟩, ⟨s0, s1, s2, s3⟩, _⟩ := hSw
            go_simp
          dsimp only [List.getElem_toArray, List.getElem_cons_zero, List.getElem_cons_succ, Act.put, List.setIfInBounds_toArray, List.set_cons_zero, List.set_cons_succ]
          refine wpAnyH_take (i := 22) (v := .bool false) rfl (by kernel_rfl) (by kernel_rfl) (by kernel_rfl) (fun _ _ _ h => h) (Or.inl ⟨by kernel_rfl, ?_⟩) hS ?_
          · intro W' hSw
            obtain ⟨⟨r1, r2⟩, ⟨s0, s1, s2, s3⟩, _⟩ := hSw
            go_simp
          dsimp only [List.getElem_toArray, List.getElem_cons_zero, List.getElem_cons_succ, Act.put, List.setIfInBounds_toArray, List.set_cons_zero, List.set_cons_succ]
          try simp only [List.setIfInBounds_toArray, List.set_cons_succ, List.set_cons_zero]
          refine wpAnyH_done (by kernel_rfl) ?_ _
          have HQ := Lib.hid (below2 HQ.out hS.2.2)
          clear hS HR1 HR2 HR3 HR4 HIC HSC
          go_wp2_with fail
          go_roundw
          case rel => exact ⟨k + 1, by omega, by go_num, HQ⟩
          case measure => simp [intOf]; omega
        · obtain rfl : k = L.length := by omega
          have k1 : decide ((L.length : Int) < (L.length : Int)) = false := decide_eq_false (by omega)
          have HPT := Lib.hid (HPT.out.below HQ.out)
          have HX := Lib.hid (HX.out.below HQ.out)
          have HT := Lib.hid (HT.out.below HQ.out)
          have HBW := Lib.hid (below2 HBW.out HQ.out)
          clear HQ HL2 HL3 HM hle
          go_wp2_with fail
          clear c0 c1 c2 c3 k1
          go_loopw [13] (fun i wr => ∃ a : Nat, a ≤ t.elems.length ∧ i = .int .i64 a ∧ Hid (Below wo.heap.size wo wr)) (fun i _ => t.elems.length - (intOf i).toNat)
          case atStart => exact ⟨0, by omega, rfl, Lib.hid (Below.refl _ _)⟩
          case round =>
            rename World => wr
            obtain ⟨a, ha, rfl, HQ⟩ := hrel
            by_cases hal : a < t.elems.length
            · have a1 : (a : Int) < (t.elems.length : Int) := by omega
              have a2 : (0 : Int) ≤ (a : Int) := by omega
              go_wp2_with fail
              go_loopw [14] (fun i wr => ∃ b : Nat, b ≤ t.elems.length ∧ i = .int .i64 b ∧ Hid (Below wo.heap.size wo wr)) (fun i _ => t.elems.length - (intOf i).toNat)
              case atStart => exact ⟨0, by omega, rfl, HQ⟩
              case round =>
                clear HQ
                rename World => wr
                obtain ⟨b, hb, rfl, HQ⟩ := hrel
                by_cases hbl : b < t.elems.length
                · have b1 : (b : Int) < (t.elems.length : Int) := by omega
                  have b2 : (0 : Int) ≤ (b : Int) := by omega
                  obtain ⟨d1, e1, q1, q2⟩ := HPT.out.at_ a hal
                  obtain ⟨d2, e2, q3, q4⟩ := HPT.out.at_ b hbl
                  have Q1 := Lib.hid q1
                  have Q2 := Lib.hid q2
                  have Q3 := Lib.hid q3
                  have Q4 := Lib.hid q4
                  have hl1 := M.prtl_len t a
                  have hl2 := M.prtl_len t b
                  have HM1 := Lib.hid (show ∀ x, x ∈ M.prtl t a → ∃ n : Nat, x = n ∧ n < t.elems.length from fun x hx => by
                    obtain ⟨k1, k2⟩ := M.prtl_mem HG.out hx
                    exact ⟨x.toNat, by omega, k2.pr.lt⟩)
                  have HM2 := Lib.hid (show ∀ x, x ∈ M.prtl t b → ∃ n : Nat, x = n ∧ n < t.elems.length from fun x hx => by
                    obtain ⟨k1, k2⟩ := M.prtl_mem HG.out hx
                    exact ⟨x.toNat, by omega, k2.pr.lt⟩)
                  have HOV := Lib.hid (show M.leB t a b = true → ∀ x, x ∈ M.prtl t a → ((M.prtl t b).any fun y => M.leB t x.toNat y.toNat) = true from fun h x hx => M.prtl_over HG.out hal h hx)
                  clear q1 q2 q3 q4
                  generalize M.prtl t a = L1 at *
                  generalize M.prtl t b = L2 at *
                  go_wp2_with fail
                  go_loopw [15] (fun i wr => ∃ i' : Nat, i' ≤ L1.length ∧ i = .int .i64 i' ∧ Hid (Below wo.heap.size wo wr)) (fun i _ => L1.length - (intOf i).toNat)
                  case atStart => exact ⟨0, by omega, rfl, HQ⟩
                  case round =>
                    clear HQ
                    rename World => wr
                    obtain ⟨i, hi, rfl, HQ⟩ := hrel
                    obtain ⟨c0, c1, c2, c3⟩ := HX.out.below HQ.out
                    have y1 := cell_below Q1.out HQ.out
                    by_cases hil : i < L1.length
                    · have i1 : (i : Int) < (L1.length : Int) := by omega
                      have i2 : (0 : Int) ≤ (i : Int) := by omega
                      obtain ⟨x, hx, hxl⟩ := HM1.out _ (List.getElem_mem hil)
                      have HX0 := Lib.hid hx
                      clear hx
                      go_wp2_with fail
                      refine (lawBelow_any t p a b _ HS.out HG.out.form hal hbl (HT.out.below HQ.out)).mono ?_
                      rintro e w21 ⟨rfl, hB21⟩
                      have HQ := Lib.hid (below2 HQ.out hB21)
                      clear c0 c1 c2 c3 y1 hB21
                      cases hab : M.leB t a b with
                      | false =>
                        clear hab
                        go_wp2_with fail
                        go_roundw
                        case rel => exact ⟨b + 1, by omega, by go_num, HQ⟩
                        case measure => simp [intOf]; omega
                      | true =>
                        have HAN := Lib.hid (show (L2.any fun y => M.leB t x y.toNat) = true by
                          have q := HOV.out hab _ (List.getElem_mem hil)
                          rw [HX0.out, Int.toNat_natCast] at q; exact q)
                        clear hab
                        go_wp2_with fail
                        go_loopw [16, 17] (fun v i wr => ∃ k : Nat, k ≤ L2.length ∧ i = .int .i64 k ∧ v = .bool ((L2.take k).any fun y => M.leB t x y.toNat) ∧ Hid (Below wo.heap.size wo wr)) (fun _ i _ => L2.length - (intOf i).toNat)
                        case atStart => exact ⟨0, by omega, rfl, by simp, HQ⟩
                        case round =>
                          clear HQ
                          rename World => wr
                          obtain ⟨k, hk, rfl, rfl, HQ⟩ := hrel
                          obtain ⟨c0, c1, c2, c3⟩ := HX.out.below HQ.out
                          have y2 := cell_below Q3.out HQ.out
                          by_cases hkl : k < L2.length
                          · have k1 : (k : Int) < (L2.length : Int) := by omega
                            have k2 : (0 : Int) ≤ (k : Int) := by omega
                            obtain ⟨y, hy, hyl⟩ := HM2.out _ (List.getElem_mem hkl)
                            have HNX := Lib.hid (show ((L2.take (k + 1)).any fun y => M.leB t x y.toNat) = (((L2.take k).any fun y => M.leB t x y.toNat) || M.leB t x y) by
                              rw [List.take_succ_eq_append_getElem hkl, List.any_append]; simp [hy])
                            obtain ⟨u1, o1, ed1, at1⟩ := Q2.out.at hil
                            obtain ⟨u2, o2, ed2, at2⟩ := Q4.out.at hkl
                            subst ed1
                            subst ed2
                            have z1 := cell_below Q1.out HQ.out
                            have z2 := cell_below (at1.at_ i hil) HQ.out
                            have z3 := cell_below Q3.out HQ.out
                            have z4 := cell_below (at2.at_ k hkl) HQ.out
                            rw [HX0.out] at z2
                            rw [hy] at z4
                            have Z := Lib.hid (And.intro (And.intro z1 z2) (And.intro z3 z4))
                            have HLC := Lib.hid (show ∀ W, TbIn W t p → Calls Try.prog 22 #[tbV t p, .int .i64 x, .int .i64 y] W fun e w' => e = .returned (.bool (M.leB t x y)) ∧ Below W.heap.size W w' from fun W hW => lawBelow_any t p x y W HS.out HG.out.form hxl hyl hW)
                            generalize ((L2.take k).any fun y => M.leB t x y.toNat) = so at *
                            generalize M.leB t x y = lxy at *
                            clear z1 z2 z3 z4 at1 at2 hy
                            go_upto_region 44 with fail
                            clear y2
                            have hS := And.intro (And.intro (And.intro (cell_below Z.out.1.1 (Below.refl _ _).drew) (cell_below Z.out.1.2 (Below.refl _ _).drew)) (And.intro (cell_below Z.out.2.1 (Below.refl _ _).drew) (cell_below Z.out.2.2 (Below.refl _ _).drew))) (And.intro (HX.out.below (below2 HQ.out (Below.refl _ _).drew)) (Below.refl wr.heap.size wr).drew)
                            clear c0 c1 c2 c3
                            cases so with
                            | true =>
                              refine wp_region_held (S := (fun W => ((W.cell? ⟨g, a, none⟩ = some (.slice (some ⟨u1, o1, none⟩) L1.length e1) ∧ W.cell? ⟨u1, o1 + i, none⟩ = some (.int .i64 (x : Nat))) ∧ W.cell? ⟨g, b, none⟩ = some (.slice (some ⟨u2, o2, none⟩) L2.length e2) ∧ W.cell? ⟨u2, o2 + k, none⟩ = some (.int .i64 (y : Nat))) ∧ TbBox W w.heap.size t p ∧ Below wr.heap.size wr W)) hmx ?_
                              change wpAnyH _ _ _ _ _ _ _ _ (wr).drew
                              refine wpAnyH_take (i := 0) (v := .bool true) rfl (by kernel_rfl) (by kernel_rfl) (by kernel_rfl) (fun _ _ _ h => h) (Or.inl ⟨by kernel_rfl, ?_⟩) hS ?_
                              · intro W' hSw
                                obtain ⟨⟨⟨r1, r2⟩, r3, r4⟩, ⟨s0, s1, s2, s3⟩, _⟩ := hSw
                                go_simp
                              dsimp only [List.getElem_toArray, List.getElem_cons_zero, List.getElem_cons_succ, Act.put, List.setIfInBounds_toArray, List.set_cons_zero, List.set_cons_succ]
                              refine wpAnyH_take (i := 1) (v := .bool true) rfl (by kernel_rfl) (by kernel_rfl) (by kernel_rfl) (fun _ _ _ h => h) (Or.inl ⟨by kernel_rfl, ?_⟩) hS ?_
                              · intro W' hSw
                                obtain ⟨⟨⟨r1, r2⟩, r3, r4⟩, ⟨s0, s1, s2, s3⟩, _⟩ := hSw
                                go_simp
                              dsimp only [List.getElem_toArray, List.getElem_cons_zero, List.getElem_cons_succ, Act.put, List.setIfInBounds_toArray, List.set_cons_zero, List.set_cons_succ]
                              refine wpAnyH_take (i := 2) (v := undef) rfl (by kernel_rfl) (by kernel_rfl) (by kernel_rfl) (fun _ _ _ h => h) (Or.inr ⟨by kernel_rfl, rfl⟩) hS ?_
                              dsimp only [List.getElem_toArray, List.getElem_cons_zero, List.getElem_cons_succ, Act.put, List.setIfInBounds_toArray, List.set_cons_zero, List.set_cons_succ]
                              refine wpAnyH_take (i := 3) (v := undef) rfl (by kernel_rfl) (by kernel_rfl) (by kernel_rfl) (fun _ _ _ h => h) (Or.inr ⟨by kernel_rfl, rfl⟩) hS ?_
                              dsimp only [List.getElem_toArray, List.getElem_cons_zero, List.getElem_cons_succ, Act.put, List.setIfInBounds_toArray, List.set_cons_zero, List.set_cons_succ]
                              refine wpAnyH_take (i := 4) (v := undef) rfl (by kernel_rfl) (by kernel_rfl) (by kernel_rfl) (fun _ _ _ h => h) (Or.inr ⟨by kernel_rfl, rfl⟩) hS ?_
                              dsimp only [List.getElem_toArray, List.getElem_cons_zero, List.getElem_cons_succ, Act.put, List.setIfInBounds_toArray, List.set_cons_zero, List.set_cons_succ]
                              refine wpAnyH_take (i := 5) (v := undef) rfl (by kernel_rfl) (by kernel_rfl) (by kernel_rfl) (fun _ _ _ h => h) (Or.inr ⟨by kernel_rfl, rfl⟩) hS ?_
                              dsimp only [List.getElem_toArray, List.getElem_cons_zero, List.getElem_cons_succ, Act.put, List.setIfInBounds_toArray, List.set_cons_zero, List.set_cons_succ]
                              refine wpAnyH_take (i := 6) (v := undef) rfl (by kernel_rfl) (by kernel_rfl) (by kernel_rfl) (fun _ _ _ h => h) (Or.inr ⟨by kernel_rfl, rfl⟩) hS ?_
                              dsimp only [List.getElem_toArray, List.getElem_cons_zero, List.getElem_cons_succ, Act.put, List.setIfInBounds_toArray, List.set_cons_zero, List.set_cons_succ]
                              refine wpAnyH_take (i := 7) (v := undef) rfl (by kernel_rfl) (by kernel_rfl) (by kernel_rfl) (fun _ _ _ h => h) (Or.inr ⟨by kernel_rfl, rfl⟩) hS ?_
                              dsimp only [List.getElem_toArray, List.getElem_cons_zero, List.getElem_cons_succ, Act.put, List.setIfInBounds_toArray, List.set_cons_zero, List.set_cons_succ]
                              refine wpAnyH_take (i := 8) (v := undef) rfl (by kernel_rfl) (by kernel_rfl) (by kernel_rfl) (fun _ _ _ h => h) (Or.inr ⟨by kernel_rfl, rfl⟩) hS ?_
                              dsimp only [List.getElem_toArray, List.getElem_cons_zero, List.getElem_cons_succ, Act.put, List.setIfInBounds_toArray, List.set_cons_zero, List.set_cons_succ]
                              refine wpAnyH_take (i := 9) (v := undef) rfl (by kernel_rfl) (by kernel_rfl) (by kernel_rfl) (fun _ _ _ h => h) (Or.inr ⟨by kernel_rfl, rfl⟩) hS ?_
                              dsimp only [List.getElem_toArray, List.getElem_cons_zero, List.getElem_cons_succ, Act.put, List.setIfInBounds_toArray, List.set_cons_zero, List.set_cons_succ]
                              refine wpAnyH_take (i := 10) (v := undef) rfl (by kernel_rfl) (by kernel_rfl) (by kernel_rfl) (fun _ _ _ h => h) (Or.inr ⟨by kernel_rfl, rfl⟩) hS ?_
                              dsimp only [List.getElem_toArray, List.getElem_cons_zero, List.getElem_cons_succ, Act.put, List.setIfInBounds_toArray, List.set_cons_zero, List.set_cons_succ]
                              refine wpAnyH_take (i := 11) (v := undef) rfl (by kernel_rfl) (by kernel_rfl) (by kernel_rfl) (fun _ _ _ h => h) (Or.inr ⟨by kernel_rfl, rfl⟩) hS ?_
                              dsimp only [List.getElem_toArray, List.getElem_cons_zero, List.getElem_cons_succ, Act.put, List.setIfInBounds_toArray, List.set_cons_zero, List.set_cons_succ]
                              refine wpAnyH_take (i := 12) (v := undef) rfl (by kernel_rfl) (by kernel_rfl) (by kernel_rfl) (fun _ _ _ h => h) (Or.inr ⟨by kernel_rfl, rfl⟩) hS ?_
                              dsimp only [List.getElem_toArray, List.getElem_cons_zero, List.getElem_cons_succ, Act.put, List.setIfInBounds_toArray, List.set_cons_zero, List.set_cons_succ]
                              refine wpAnyH_take (i := 13) (v := undef) rfl (by kernel_rfl) (by kernel_rfl) (by kernel_rfl) (fun _ _ _ h => h) (Or.inr ⟨by kernel_rfl, rfl⟩) hS ?_
                              dsimp only [List.getElem_toArray, List.getElem_cons_zero, List.getElem_cons_succ, Act.put, List.setIfInBounds_toArray, List.set_cons_zero, List.set_cons_succ]
                              refine wpAnyH_take (i := 14) (v := undef) rfl (by kernel_rfl) (by kernel_rfl) (by kernel_rfl) (fun _ _ _ h => h) (Or.inr ⟨by kernel_rfl, rfl⟩) hS ?_
                              dsimp only [List.getElem_toArray, List.getElem_cons_zero, List.getElem_cons_succ, Act.put, List.setIfInBounds_toArray, List.set_cons_zero, List.set_cons_succ]
                              refine wpAnyH_take (i := 15) (v := undef) rfl (by kernel_rfl) (by kernel_rfl) (by kernel_rfl) (fun _ _ _ h => h) (Or.inr ⟨by kernel_rfl, rfl⟩) hS ?_
                              dsimp only [List.getElem_toArray, List.getElem_cons_zero, List.getElem_cons_succ, Act.put, List.setIfInBounds_toArray, List.set_cons_zero, List.set_cons_succ]
                              refine wpAnyH_take (i := 16) (v := undef) rfl (by kernel_rfl) (by kernel_rfl) (by kernel_rfl) (fun _ _ _ h => h) (Or.inr ⟨by kernel_rfl, rfl⟩) hS ?_
                              dsimp only [List.getElem_toArray, List.getElem_cons_zero, List.getElem_cons_succ, Act.put, List.setIfInBounds_toArray, List.set_cons_zero, List.set_cons_succ]
                              refine wpAnyH_take (i := 17) (v := undef) rfl (by kernel_rfl) (by kernel_rfl) (by kernel_rfl) (fun _ _ _ h => h) (Or.inr ⟨by kernel_rfl, rfl⟩) hS ?_
                              dsimp only [List.getElem_toArray, List.getElem_cons_zero, List.getElem_cons_succ, Act.put, List.setIfInBounds_toArray, List.set_cons_zero, List.set_cons_succ]
                              refine wpAnyH_take (i := 18) (v := .bool true) rfl (by kernel_rfl) (by kernel_rfl) (by kernel_rfl) (fun _ _ _ h => h) (Or.inl ⟨by kernel_rfl, ?_⟩) hS ?_
                              · intro W' hSw
                                obtain ⟨⟨⟨r1, r2⟩, r3, r4⟩, ⟨s0, s1, s2, s3⟩, _⟩ := hSw
                                go_simp
                              dsimp only [List.getElem_toArray, List.getElem_cons_zero, List.getElem_cons_succ, Act.put, List.setIfInBounds_toArray, List.set_cons_zero, List.set_cons_succ]
                              refine wpAnyH_take (i := 19) (v := .bool true) rfl (by kernel_rfl) (by kernel_rfl) (by kernel_rfl) (fun _ _ _ h => h) (Or.inl ⟨by kernel_rfl, ?_⟩) hS ?_
                              · intro W' hSw
                                obtain ⟨⟨⟨r1, r2⟩, r3, r4⟩, ⟨s0, s1, s2, s3⟩, _⟩ := hSw
                                go_simp
                              dsimp only [List.getElem_toArray, List.getElem_cons_zero, List.getElem_cons_succ, Act.put, List.setIfInBounds_toArray, List.set_cons_zero, List.set_cons_succ]
                              try simp only [List.setIfInBounds_toArray, List.set_cons_succ, List.set_cons_zero]
                              refine wpAnyH_done (by kernel_rfl) ?_ _
                              have HQ := Lib.hid (below2 HQ.out hS.2.2)
                              clear hS HLC Z
                              go_wp2_with fail
                              go_roundw
                              case rel => exact ⟨k + 1, by omega, by go_num, by rw [HNX.out]; rfl, HQ⟩
                              case measure => simp [intOf]; omega
                            | false =>
                              refine wp_region_held (S := (fun W => ((W.cell? ⟨g, a, none⟩ = some (.slice (some ⟨u1, o1, none⟩) L1.length e1) ∧ W.cell? ⟨u1, o1 + i, none⟩ = some (.int .i64 (x : Nat))) ∧ W.cell? ⟨g, b, none⟩ = some (.slice (some ⟨u2, o2, none⟩) L2.length e2) ∧ W.cell? ⟨u2, o2 + k, none⟩ = some (.int .i64 (y : Nat))) ∧ TbBox W w.heap.size t p ∧ Below wr.heap.size wr W)) hmx ?_
                              change wpAnyH _ _ _ _ _ _ _ _ (wr).drew
                              refine wpAnyH_take (i := 0) (v := .bool false) rfl (by kernel_rfl) (by kernel_rfl) (by kernel_rfl) (fun _ _ _ h => h) (Or.inl ⟨by kernel_rfl, ?_⟩) hS ?_
                              · intro W' hSw
                                obtain ⟨⟨⟨r1, r2⟩, r3, r4⟩, ⟨s0, s1, s2, s3⟩, _⟩ := hSw
                                go_simp
                              dsimp only [List.getElem_toArray, List.getElem_cons_zero, List.getElem_cons_succ, Act.put, List.setIfInBounds_toArray, List.set_cons_zero, List.set_cons_succ]
                              refine wpAnyH_take (i := 1) (v := .bool false) rfl (by kernel_rfl) (by kernel_rfl) (by kernel_rfl) (fun _ _ _ h => h) (Or.inl ⟨by kernel_rfl, ?_⟩) hS ?_
                              · intro W' hSw
                                obtain ⟨⟨⟨r1, r2⟩, r3, r4⟩, ⟨s0, s1, s2, s3⟩, _⟩ := hSw
                                go_simp
                              dsimp only [List.getElem_toArray, List.getElem_cons_zero, List.getElem_cons_succ, Act.put, List.setIfInBounds_toArray, List.set_cons_zero, List.set_cons_succ]
                              refine wpAnyH_take (i := 2) (v := tbV t p) rfl (by kernel_rfl) (by kernel_rfl) (by kernel_rfl) (fun _ _ _ h => h) (Or.inl ⟨by kernel_rfl, ?_⟩) hS ?_
                              · intro W' hSw
                                obtain ⟨⟨⟨r1, r2⟩, r3, r4⟩, ⟨s0, s1, s2, s3⟩, _⟩ := hSw
                                go_simp
                              dsimp only [List.getElem_toArray, List.getElem_cons_zero, List.getElem_cons_succ, Act.put, List.setIfInBounds_toArray, List.set_cons_zero, List.set_cons_succ]
                              refine wpAnyH_take (i := 3) (v := .slice (some ⟨g, 0, none⟩) t.elems.length vc) rfl (by kernel_rfl) (by kernel_rfl) (by kernel_rfl) (fun _ _ _ h => h) (Or.inl ⟨by kernel_rfl, ?_⟩) hS ?_
                              · intro W' hSw
                                obtain ⟨⟨⟨r1, r2⟩, r3, r4⟩, ⟨s0, s1, s2, s3⟩, _⟩ := hSw
                                go_simp
                              dsimp only [List.getElem_toArray, List.getElem_cons_zero, List.getElem_cons_succ, Act.put, List.setIfInBounds_toArray, List.set_cons_zero, List.set_cons_succ]
                              refine wpAnyH_take (i := 4) (v := .int .i64 a) rfl (by kernel_rfl) (by kernel_rfl) (by kernel_rfl) (fun _ _ _ h => h) (Or.inl ⟨by kernel_rfl, ?_⟩) hS ?_
                              · intro W' hSw
                                obtain ⟨⟨⟨r1, r2⟩, r3, r4⟩, ⟨s0, s1, s2, s3⟩, _⟩ := hSw
                                go_simp
                              dsimp only [List.getElem_toArray, List.getElem_cons_zero, List.getElem_cons_succ, Act.put, List.setIfInBounds_toArray, List.set_cons_zero, List.set_cons_succ]
                              refine wpAnyH_take (i := 5) (v := .pointer (some ⟨g, a, none⟩)) rfl (by kernel_rfl) (by kernel_rfl) (by kernel_rfl) (fun _ _ _ h => h) (Or.inl ⟨by kernel_rfl, ?_⟩) hS ?_
                              · intro W' hSw
                                obtain ⟨⟨⟨r1, r2⟩, r3, r4⟩, ⟨s0, s1, s2, s3⟩, _⟩ := hSw
                                go_simp
                              dsimp only [List.getElem_toArray, List.getElem_cons_zero, List.getElem_cons_succ, Act.put, List.setIfInBounds_toArray, List.set_cons_zero, List.set_cons_succ]
                              refine wpAnyH_take (i := 6) (v := .slice (some ⟨u1, o1, none⟩) L1.length e1) rfl (by kernel_rfl) (by kernel_rfl) (by kernel_rfl) (fun _ _ _ h => h) (Or.inl ⟨by kernel_rfl, ?_⟩) hS ?_
                              · intro W' hSw
                                obtain ⟨⟨⟨r1, r2⟩, r3, r4⟩, ⟨s0, s1, s2, s3⟩, _⟩ := hSw
                                go_simp
                              dsimp only [List.getElem_toArray, List.getElem_cons_zero, List.getElem_cons_succ, Act.put, List.setIfInBounds_toArray, List.set_cons_zero, List.set_cons_succ]
                              refine wpAnyH_take (i := 7) (v := .int .i64 i) rfl (by kernel_rfl) (by kernel_rfl) (by kernel_rfl) (fun _ _ _ h => h) (Or.inl ⟨by kernel_rfl, ?_⟩) hS ?_
                              · intro W' hSw
                                obtain ⟨⟨⟨r1, r2⟩, r3, r4⟩, ⟨s0, s1, s2, s3⟩, _⟩ := hSw
                                go_simp
                              dsimp only [List.getElem_toArray, List.getElem_cons_zero, List.getElem_cons_succ, Act.put, List.setIfInBounds_toArray, List.set_cons_zero, List.set_cons_succ]
                              refine wpAnyH_take (i := 8) (v := .pointer (some ⟨u1, o1 + i, none⟩)) rfl (by kernel_rfl) (by kernel_rfl) (by kernel_rfl) (fun _ _ _ h => h) (Or.inl ⟨by kernel_rfl, ?_⟩) hS ?_
                              · intro W' hSw
                                obtain ⟨⟨⟨r1, r2⟩, r3, r4⟩, ⟨s0, s1, s2, s3⟩, _⟩ := hSw
                                go_simp
                              dsimp only [List.getElem_toArray, List.getElem_cons_zero, List.getElem_cons_succ, Act.put, List.setIfInBounds_toArray, List.set_cons_zero, List.set_cons_succ]
                              refine wpAnyH_take (i := 9) (v := .int .i64 x) rfl (by kernel_rfl) (by kernel_rfl) (by kernel_rfl) (fun _ _ _ h => h) (Or.inl ⟨by kernel_rfl, ?_⟩) hS ?_
                              · intro W' hSw
                                obtain ⟨⟨⟨r1, r2⟩, r3, r4⟩, ⟨s0, s1, s2, s3⟩, _⟩ := hSw
                                go_simp
                              dsimp only [List.getElem_toArray, List.getElem_cons_zero, List.getElem_cons_succ, Act.put, List.setIfInBounds_toArray, List.set_cons_zero, List.set_cons_succ]
                              refine wpAnyH_take (i := 10) (v := .slice (some ⟨g, 0, none⟩) t.elems.length vc) rfl (by kernel_rfl) (by kernel_rfl) (by kernel_rfl) (fun _ _ _ h => h) (Or.inl ⟨by kernel_rfl, ?_⟩) hS ?_
                              · intro W' hSw
                                obtain ⟨⟨⟨r1, r2⟩, r3, r4⟩, ⟨s0, s1, s2, s3⟩, _⟩ := hSw
                                go_simp
                              dsimp only [List.getElem_toArray, List.getElem_cons_zero, List.getElem_cons_succ, Act.put, List.setIfInBounds_toArray, List.set_cons_zero, List.set_cons_succ]
                              refine wpAnyH_take (i := 11) (v := .int .i64 b) rfl (by kernel_rfl) (by kernel_rfl) (by kernel_rfl) (fun _ _ _ h => h) (Or.inl ⟨by kernel_rfl, ?_⟩) hS ?_
                              · intro W' hSw
                                obtain ⟨⟨⟨r1, r2⟩, r3, r4⟩, ⟨s0, s1, s2, s3⟩, _⟩ := hSw
                                go_simp
                              dsimp only [List.getElem_toArray, List.getElem_cons_zero, List.getElem_cons_succ, Act.put, List.setIfInBounds_toArray, List.set_cons_zero, List.set_cons_succ]
                              refine wpAnyH_take (i := 12) (v := .pointer (some ⟨g, b, none⟩)) rfl (by kernel_rfl) (by kernel_rfl) (by kernel_rfl) (fun _ _ _ h => h) (Or.inl ⟨by kernel_rfl, ?_⟩) hS ?_
                              · intro W' hSw
                                obtain ⟨⟨⟨r1, r2⟩, r3, r4⟩, ⟨s0, s1, s2, s3⟩, _⟩ := hSw
                                go_simp
                              dsimp only [List.getElem_toArray, List.getElem_cons_zero, List.getElem_cons_succ, Act.put, List.setIfInBounds_toArray, List.set_cons_zero, List.set_cons_succ]
                              refine wpAnyH_take (i := 13) (v := .slice (some ⟨u2, o2, none⟩) L2.length e2) rfl (by kernel_rfl) (by kernel_rfl) (by kernel_rfl) (fun _ _ _ h => h) (Or.inl ⟨by kernel_rfl, ?_⟩) hS ?_
                              · intro W' hSw
                                obtain ⟨⟨⟨r1, r2⟩, r3, r4⟩, ⟨s0, s1, s2, s3⟩, _⟩ := hSw
                                go_simp
                              dsimp only [List.getElem_toArray, List.getElem_cons_zero, List.getElem_cons_succ, Act.put, List.setIfInBounds_toArray, List.set_cons_zero, List.set_cons_succ]
                              refine wpAnyH_take (i := 14) (v := .int .i64 k) rfl (by kernel_rfl) (by kernel_rfl) (by kernel_rfl) (fun _ _ _ h => h) (Or.inl ⟨by kernel_rfl, ?_⟩) hS ?_
                              · intro W' hSw
                                obtain ⟨⟨⟨r1, r2⟩, r3, r4⟩, ⟨s0, s1, s2, s3⟩, _⟩ := hSw
                                go_simp
                              dsimp only [List.getElem_toArray, List.getElem_cons_zero, List.getElem_cons_succ, Act.put, List.setIfInBounds_toArray, List.set_cons_zero, List.set_cons_succ]
                              refine wpAnyH_take (i := 15) (v := .pointer (some ⟨u2, o2 + k, none⟩)) rfl (by kernel_rfl) (by kernel_rfl) (by kernel_rfl) (fun _ _ _ h => h) (Or.inl ⟨by kernel_rfl, ?_⟩) hS ?_
                              · intro W' hSw
                                obtain ⟨⟨⟨r1, r2⟩, r3, r4⟩, ⟨s0, s1, s2, s3⟩, _⟩ := hSw
                                go_simp
                              dsimp only [List.getElem_toArray, List.getElem_cons_zero, List.getElem_cons_succ, Act.put, List.setIfInBounds_toArray, List.set_cons_zero, List.set_cons_succ]
                              refine wpAnyH_take (i := 16) (v := .int .i64 y) rfl (by kernel_rfl) (by kernel_rfl) (by kernel_rfl) (fun _ _ _ h => h) (Or.inl ⟨by kernel_rfl, ?_⟩) hS ?_
                              · intro W' hSw
                                obtain ⟨⟨⟨r1, r2⟩, r3, r4⟩, ⟨s0, s1, s2, s3⟩, _⟩ := hSw
                                go_simp
                              dsimp only [List.getElem_toArray, List.getElem_cons_zero, List.getElem_cons_succ, Act.put, List.setIfInBounds_toArray, List.set_cons_zero, List.set_cons_succ]
                              refine wpAnyH_call 17 22 #[tbV t p, .int .i64 x, .int .i64 y] (.bool lxy) (by kernel_rfl) rfl (by kernel_rfl) (by kernel_rfl) (HLC.out _ (HT.out.below (below2 HQ.out hS.2.2))) ?_
                              intro w31 hB
                              have hS := And.intro (And.intro (And.intro (cell_below hS.1.1.1 hB) (cell_below hS.1.1.2 hB)) (And.intro (cell_below hS.1.2.1 hB) (cell_below hS.1.2.2 hB))) (And.intro (hS.2.1.below hB) (below2 hS.2.2 hB))
                              clear hB
                              refine ⟨⟨hS.1, hS.2.1, hS.2.2⟩, ?_⟩
                              dsimp only [List.getElem_toArray, List.getElem_cons_zero, List.getElem_cons_succ, Act.put, List.setIfInBounds_toArray, List.set_cons_zero, List.set_cons_succ]
                              refine wpAnyH_take (i := 18) (v := .bool lxy) rfl (by kernel_rfl) (by kernel_rfl) (by kernel_rfl) (fun _ _ _ h => h) (Or.inl ⟨by kernel_rfl, ?_⟩) hS ?_
                              · intro W' hSw
                                obtain ⟨⟨⟨r1, r2⟩, r3, r4⟩, ⟨s0, s1, s2, s3⟩, _⟩ := hSw
                                go_simp
                              dsimp only [List.getElem_toArray, List.getElem_cons_zero, List.getElem_cons_succ, Act.put, List.setIfInBounds_toArray, List.set_cons_zero, List.set_cons_succ]
                              refine wpAnyH_take (i := 19) (v := .bool lxy) rfl (by kernel_rfl) (by kernel_rfl) (by kernel_rfl) (fun _ _ _ h => h) (Or.inl ⟨by kernel_rfl, ?_⟩) hS ?_
                              · intro W' hSw
                                obtain ⟨⟨⟨r1, r2⟩, r3, r4⟩, ⟨s0, s1, s2, s3⟩, _⟩ := hSw
                                go_simp
                              dsimp only [List.getElem_toArray, List.getElem_cons_zero, List.getElem_cons_succ, Act.put, List.setIfInBounds_toArray, List.set_cons_zero, List.set_cons_succ]
                              try simp only [List.setIfInBounds_toArray, List.set_cons_succ, List.set_cons_zero]
                              refine wpAnyH_done (by kernel_rfl) ?_ _
                              have HQ := Lib.hid (below2 HQ.out hS.2.2)
                              clear hS HLC Z
                              go_wp2_with fail
                              go_roundw
                              case rel => exact ⟨k + 1, by omega, by go_num, by rw [HNX.out, Bool.false_or], HQ⟩
                              case measure => simp [intOf]; omega
                          · obtain rfl : k = L2.length := by omega
                            have k1 : decide ((L2.length : Int) < (L2.length : Int)) = false := decide_eq_false (by omega)
                            rw [List.take_length, HAN.out]
                            go_wp2_with fail
                            go_roundw
                            case rel => exact ⟨i + 1, by omega, by go_num, HQ⟩
                            case measure => simp [intOf]; omega
                    · obtain rfl : i = L1.length := by omega
                      have i1 : decide ((L1.length : Int) < (L1.length : Int)) = false := decide_eq_false (by omega)
                      go_wp2_with fail
                      go_roundw
                      case rel => exact ⟨b + 1, by omega, by go_num, HQ⟩
                      case measure => simp [intOf]; omega
                · obtain rfl : b = t.elems.length := by omega
                  have b1 : decide ((t.elems.length : Int) < (t.elems.length : Int)) = false := decide_eq_false (by omega)
                  go_wp2_with fail
                  go_roundw
                  case rel => exact ⟨a + 1, by omega, by go_num, HQ⟩
                  case measure => simp [intOf]; omega
            · obtain rfl : a = t.elems.length := by omega
              have a1 : decide ((t.elems.length : Int) < (t.elems.length : Int)) = false := decide_eq_false (by omega)
              go_wp2_with fail
              refine (awake_any _).mono ?_
              rintro e w41 ⟨rfl, hB41⟩
              have hB := below2 HBW.out (below2 HQ.out hB41)
              clear hB41
              go_wp2_with fail
              go_ret
              exact ⟨rfl, hB⟩
end Go.Proofs.Ythacjdlohmkpoaa
