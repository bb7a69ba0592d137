/- DERIVED. The statement on joins, walked. -/
import Derived.Test.YtlpindnbkgaplaaOrdBkC
import Derived.Test.YtlpindnbkgaplaaBasKC
import Derived.Deep.DeepCutAuto
namespace Go.Proofs.Ytlpindnbkgaplaa
open Go.RowKit

set_option maxHeartbeats 16000000 in
set_option maxRecDepth 100000 in
theorem orderLaws_any (t : M.Tb) (p : Tp) (w : World) (ht : TbIn w t p) : Calls Try.prog 6 #[tbV t p] w fun e w' => e = .returned (.bool true) ∧ Below w.heap.size w w' := by
  have hmx : Try.prog.follows .mixedOrders = true := by kernel_rfl
  have HX := Lib.hid (tbBox (t := t) (p := p) (box_new w (tbA t p) 26))
  have HT := Lib.hid (ht.below (below1 w (.cells (tbA t p) 26)))
  have HBW := Lib.hid (below1 w (.cells (tbA t p) 26))
  have HC := Lib.hid (right_any t p (w.alloc (.cells (tbA t p) 26)) HT.out)
  obtain ⟨c0, c1, c2, c3⟩ := HX.out
  clear ht
  go_enter Try.func6, Try.ntmps6
  go_wp2_with fail
  generalize hW0 : w.alloc (.cells (tbA t p) 26) = W0 at *
  clear hW0
  refine HC.out.mono ?_
  rintro e w1 ⟨⟨hs, hl, rfl⟩ | rfl, hB1⟩
  · have HS := Lib.hid hs
    have HL := Lib.hid hl
    have HG := Lib.hid (M.lat_good hl)
    have HB := Lib.hid hB1
    have HWN := Lib.hid HG.out.form.wrong
    have hone := HG.out.form.one
    have h12 := HG.out.form.twelve
    obtain ⟨pea, pec, paa, pac, pwa, pwc⟩ := p
    obtain ⟨wb, wo, e1, hW⟩ := HT.out.ws.at (i := 0) (by rw [HWN.out]; exact hone)
    have e1 : pwa = some ⟨wb, wo, none⟩ := e1
    subst e1
    have HW := Lib.hid hW
    clear HC c0 c1 c2 c3 hs hl hB1 hW
    obtain ⟨c0, c1, c2, c3⟩ := HX.out.below HB.out
    go_wp2_with fail
    go_loopw [4] (fun i wr => ∃ a : Nat, a ≤ t.elems.length ∧ i = .int .i64 a ∧ Hid (Below W0.heap.size W0 wr)) (fun i _ => t.elems.length - (intOf i).toNat)
    case atStart => exact ⟨0, by omega, rfl, HB⟩
    case round =>
      clear c0 c1 c2 c3 HB
      rename World => wr
      obtain ⟨a, ha, rfl, HB⟩ := hrel
      obtain ⟨c0, c1, c2, c3⟩ := HX.out.below HB.out
      by_cases hal : a < t.elems.length
      · have n1 : (a : Int) < (t.elems.length : Int) := by omega
        have n2 : (0 : Int) ≤ (a : Int) := by omega
        go_wp2_with fail
        refine (lawJoin_any t ⟨pea, pec, paa, pac, some ⟨wb, wo, none⟩, pwc⟩ a a _ HS.out HL.out hal hal (HT.out.below HB.out)).mono ?_
        rintro e w2 ⟨rfl, hB2⟩
        have HB := Lib.hid (below2 HB.out hB2)
        clear c0 c1 c2 c3 hB2
        obtain ⟨c0, c1, c2, c3⟩ := HX.out.below HB.out
        rw [M.jnD_same HG.out hal]
        go_wp2_with fail
        refine (lawJoin0_any t ⟨pea, pec, paa, pac, some ⟨wb, wo, none⟩, pwc⟩ a _ HS.out HL.out hal (HT.out.below HB.out)).mono ?_
        rintro e w3 ⟨rfl, hB3⟩
        have HB := Lib.hid (below2 HB.out hB3)
        clear c0 c1 c2 c3 hB3
        obtain ⟨c0, c1, c2, c3⟩ := HX.out.below HB.out
        go_wp2_with fail
        go_loopw [5] (fun i wr => ∃ b : Nat, b ≤ t.elems.length ∧ i = .int .i64 b ∧ Hid (Below W0.heap.size W0 wr)) (fun i _ => t.elems.length - (intOf i).toNat)
        case atStart => exact ⟨0, by omega, rfl, HB⟩
        case round =>
          clear c0 c1 c2 c3 HB
          rename World => wr
          obtain ⟨b, hb, rfl, HB⟩ := hrel
          obtain ⟨c0, c1, c2, c3⟩ := HX.out.below HB.out
          by_cases hbl : b < t.elems.length
          · have m1 : (b : Int) < (t.elems.length : Int) := by omega
            have m2 : (0 : Int) ≤ (b : Int) := by omega
            go_wp2_with fail
            refine (lawJoin_any t ⟨pea, pec, paa, pac, some ⟨wb, wo, none⟩, pwc⟩ a b _ HS.out HL.out hal hbl (HT.out.below HB.out)).mono ?_
            rintro e w4 ⟨rfl, hB4⟩
            have HB := Lib.hid (below2 HB.out hB4)
            clear c0 c1 c2 c3 hB4
            obtain ⟨c0, c1, c2, c3⟩ := HX.out.below HB.out
            have hJ := M.jnD_is HG.out hal hbl
            have hI := M.jnD_iff HG.out hal hbl
            have hA := fun c (hc : c < t.elems.length) => M.jnD_assoc HG.out hal hbl hc
            have hM := M.jnD_comm t b a
            have hWr := M.jnD_wrong HG.out hal hbl
            generalize hj : M.jnD t a b = j at *
            clear hj
            have HJ := Lib.hid hJ
            have HI := Lib.hid hI
            have HA := Lib.hid hA
            have HM := Lib.hid hM
            have HWR := Lib.hid hWr
            clear hJ hI hA hM hWr
            have hjl := HJ.out.lt
            have j1 : (j : Int) < (t.elems.length : Int) := by omega
            have j2 : (0 : Int) ≤ (j : Int) := by omega
            have j3 : decide ((j : Int) < 0) = false := decide_eq_false (by omega)
            go_upto_region 13 with fail
            go_cut [91] from 34 to 132 (fun c wx => c = .bool false ∧ Hid (Below W0.heap.size W0 wx))
            case first =>
              have hwa : a < t.wrong.length := by rw [HWN.out]; exact hal
              have hwj : j < t.wrong.length := by rw [HWN.out]; exact hjl
              have a1 : (a : Int) < (t.wrong.length : Int) := by omega
              have a2 : (j : Int) < (t.wrong.length : Int) := by omega
              have i1 : ((j : Int) == (b : Int)) = M.leB t a b := by rw [← HI.out]; by_cases h : j = b <;> simp [h]; omega
              have i2 : decide ((j : Int) = (b : Int)) = M.leB t a b := by rw [← HI.out]; by_cases h : j = b <;> simp [h]; omega
              have HWA := Lib.hid (HW.out.at_ a hwa)
              have HWJ := Lib.hid (HW.out.at_ j hwj)
              have HWW := Lib.hid (show t.wrong[a] = true → t.wrong[j] = true from fun h => by have := HWR.out (by unfold M.wr; rw [List.getD_eq_getElem?_getD, List.getElem?_eq_getElem hwa]; exact h); unfold M.wr at this; rw [List.getD_eq_getElem?_getD, List.getElem?_eq_getElem hwj] at this; exact this)
              go_wp2_with fail
              refine (lawJoin_any t ⟨pea, pec, paa, pac, some ⟨wb, wo, none⟩, pwc⟩ b a _ HS.out HL.out hbl hal (HT.out.below HB.out)).mono ?_
              rintro e w5 ⟨rfl, hB5⟩
              have HB := Lib.hid (below2 HB.out hB5)
              clear c0 c1 c2 c3 hB5
              obtain ⟨c0, c1, c2, c3⟩ := HX.out.below HB.out
              rw [HM.out]
              go_wp2_with fail
              refine (lawBelow_any t ⟨pea, pec, paa, pac, some ⟨wb, wo, none⟩, pwc⟩ a j _ HS.out HG.out.form hal hjl (HT.out.below HB.out)).mono ?_
              rintro e w6 ⟨rfl, hB6⟩
              have HB := Lib.hid (below2 HB.out hB6)
              clear c0 c1 c2 c3 hB6
              obtain ⟨c0, c1, c2, c3⟩ := HX.out.below HB.out
              rw [HJ.out.l]
              go_wp2_with fail
              refine (lawBelow_any t ⟨pea, pec, paa, pac, some ⟨wb, wo, none⟩, pwc⟩ b j _ HS.out HG.out.form hbl hjl (HT.out.below HB.out)).mono ?_
              rintro e w7 ⟨rfl, hB7⟩
              have HB := Lib.hid (below2 HB.out hB7)
              clear c0 c1 c2 c3 hB7
              obtain ⟨c0, c1, c2, c3⟩ := HX.out.below HB.out
              rw [HJ.out.r]
              go_wp2_with fail
              refine (lawBelow_any t ⟨pea, pec, paa, pac, some ⟨wb, wo, none⟩, pwc⟩ a b _ HS.out HG.out.form hal hbl (HT.out.below HB.out)).mono ?_
              rintro e w8 ⟨rfl, hB8⟩
              have HB := Lib.hid (below2 HB.out hB8)
              clear c0 c1 c2 c3 hB8
              obtain ⟨c0, c1, c2, c3⟩ := HX.out.below HB.out
              have v0 := cell_below HWA.out HB.out
              have v1 := cell_below HWJ.out HB.out
              cases hwt : t.wrong[a] with
              | false =>
                rw [hwt] at v0
                clear v1
                go_wp2_with fail
                go_meet
                exact ⟨rfl, HB⟩
              | true =>
                rw [hwt] at v0
                rw [HWW.out hwt] at v1
                go_wp2_with fail
                go_meet
                exact ⟨rfl, HB⟩
            case rest =>
              obtain ⟨rfl, HBX⟩ := hcut
              have HB := HBX
              clear c0 c1 c2 c3 HBX
              obtain ⟨c0, c1, c2, c3⟩ := HX.out.below HB.out
              go_wp2_with fail
              go_loopw [7] (fun i wr => ∃ c : Nat, c ≤ t.elems.length ∧ i = .int .i64 c ∧ Hid (Below W0.heap.size W0 wr)) (fun i _ => t.elems.length - (intOf i).toNat)
              case atStart => exact ⟨0, by omega, rfl, HB⟩
              case round =>
                clear c0 c1 c2 c3 HB
                rename World => wr
                obtain ⟨c, hc, rfl, HB⟩ := hrel
                obtain ⟨c0, c1, c2, c3⟩ := HX.out.below HB.out
                by_cases hcl : c < t.elems.length
                · have q1 : (c : Int) < (t.elems.length : Int) := by omega
                  have q2 : (0 : Int) ≤ (c : Int) := by omega
                  go_wp2_with fail
                  refine (lawJoin_any t ⟨pea, pec, paa, pac, some ⟨wb, wo, none⟩, pwc⟩ b c _ HS.out HL.out hbl hcl (HT.out.below HB.out)).mono ?_
                  rintro e w9 ⟨rfl, hB9⟩
                  have HB := Lib.hid (below2 HB.out hB9)
                  clear c0 c1 c2 c3 hB9
                  obtain ⟨c0, c1, c2, c3⟩ := HX.out.below HB.out
                  have hK := M.jnD_is HG.out hbl hcl
                  have hA := HA.out c hcl
                  generalize hk : M.jnD t b c = k at *
                  clear hk
                  have HK := Lib.hid hK
                  have HAC := Lib.hid hA
                  clear hK hA
                  have hkl := HK.out.lt
                  have k2 : (0 : Int) ≤ (k : Int) := by omega
                  have k3 : decide ((k : Int) < 0) = false := decide_eq_false (by omega)
                  go_upto_region 19 with fail
                  go_cut [132] from 92 to 132 (fun c wx => c = .bool false ∧ Hid (Below W0.heap.size W0 wx))
                  case first =>
                    clear c0 c1 c2 c3
                    have hS := HX.out.below HB.out.drew
                    have HBD := Lib.hid (HB.out.drew)
                    refine wp_region_held (S := fun W => TbBox W w.heap.size t ⟨pea, pec, paa, pac, some ⟨wb, wo, none⟩, pwc⟩) hmx ?_
                    change wpAnyH _ _ _ _ _ _ _ _ (w9).drew
                    refine wpAnyH_take (i := 0) (v := .int .i64 k) rfl (by kernel_rfl) (by kernel_rfl) (by kernel_rfl) (fun _ _ _ h => h) (Or.inl ⟨by kernel_rfl, ?_⟩) hS ?_
                    · intro W' hSw
                      obtain ⟨s0, s1, s2, s3⟩ := hSw
                      go_simp
                    dsimp only [List.getElem_toArray, List.getElem_cons_zero, List.getElem_cons_succ, Act.put, List.setIfInBounds_toArray, List.set_cons_zero, List.set_cons_succ]
                    refine wpAnyH_take (i := 1) (v := .bool false) rfl (by kernel_rfl) (by kernel_rfl) (by kernel_rfl) (fun _ _ _ h => h) (Or.inl ⟨by kernel_rfl, ?_⟩) hS ?_
                    · intro W' hSw
                      obtain ⟨s0, s1, s2, s3⟩ := hSw
                      go_simp
                    dsimp only [List.getElem_toArray, List.getElem_cons_zero, List.getElem_cons_succ, Act.put, List.setIfInBounds_toArray, List.set_cons_zero, List.set_cons_succ]
                    refine wpAnyH_take (i := 2) (v := .bool false) rfl (by kernel_rfl) (by kernel_rfl) (by kernel_rfl) (fun _ _ _ h => h) (Or.inl ⟨by kernel_rfl, ?_⟩) hS ?_
                    · intro W' hSw
                      obtain ⟨s0, s1, s2, s3⟩ := hSw
                      go_simp
                    dsimp only [List.getElem_toArray, List.getElem_cons_zero, List.getElem_cons_succ, Act.put, List.setIfInBounds_toArray, List.set_cons_zero, List.set_cons_succ]
                    refine wpAnyH_take (i := 3) (v := tbV t ⟨pea, pec, paa, pac, some ⟨wb, wo, none⟩, pwc⟩) rfl (by kernel_rfl) (by kernel_rfl) (by kernel_rfl) (fun _ _ _ h => h) (Or.inl ⟨by kernel_rfl, ?_⟩) hS ?_
                    · intro W' hSw
                      obtain ⟨s0, s1, s2, s3⟩ := hSw
                      go_simp
                    dsimp only [List.getElem_toArray, List.getElem_cons_zero, List.getElem_cons_succ, Act.put, List.setIfInBounds_toArray, List.set_cons_zero, List.set_cons_succ]
                    refine wpAnyH_take (i := 4) (v := .int .i64 a) rfl (by kernel_rfl) (by kernel_rfl) (by kernel_rfl) (fun _ _ _ h => h) (Or.inl ⟨by kernel_rfl, ?_⟩) hS ?_
                    · intro W' hSw
                      obtain ⟨s0, s1, s2, s3⟩ := hSw
                      go_simp
                    dsimp only [List.getElem_toArray, List.getElem_cons_zero, List.getElem_cons_succ, Act.put, List.setIfInBounds_toArray, List.set_cons_zero, List.set_cons_succ]
                    refine wpAnyH_take (i := 5) (v := .int .i64 k) rfl (by kernel_rfl) (by kernel_rfl) (by kernel_rfl) (fun _ _ _ h => h) (Or.inl ⟨by kernel_rfl, ?_⟩) hS ?_
                    · intro W' hSw
                      obtain ⟨s0, s1, s2, s3⟩ := hSw
                      go_simp
                    dsimp only [List.getElem_toArray, List.getElem_cons_zero, List.getElem_cons_succ, Act.put, List.setIfInBounds_toArray, List.set_cons_zero, List.set_cons_succ]
                    refine wpAnyH_take (i := 7) (v := tbV t ⟨pea, pec, paa, pac, some ⟨wb, wo, none⟩, pwc⟩) rfl (by kernel_rfl) (by kernel_rfl) (by kernel_rfl) (fun _ _ _ h => h) (Or.inl ⟨by kernel_rfl, ?_⟩) hS ?_
                    · intro W' hSw
                      obtain ⟨s0, s1, s2, s3⟩ := hSw
                      go_simp
                    dsimp only [List.getElem_toArray, List.getElem_cons_zero, List.getElem_cons_succ, Act.put, List.setIfInBounds_toArray, List.set_cons_zero, List.set_cons_succ]
                    refine wpAnyH_take (i := 8) (v := .int .i64 j) rfl (by kernel_rfl) (by kernel_rfl) (by kernel_rfl) (fun _ _ _ h => h) (Or.inl ⟨by kernel_rfl, ?_⟩) hS ?_
                    · intro W' hSw
                      obtain ⟨s0, s1, s2, s3⟩ := hSw
                      go_simp
                    dsimp only [List.getElem_toArray, List.getElem_cons_zero, List.getElem_cons_succ, Act.put, List.setIfInBounds_toArray, List.set_cons_zero, List.set_cons_succ]
                    refine wpAnyH_take (i := 9) (v := .int .i64 c) rfl (by kernel_rfl) (by kernel_rfl) (by kernel_rfl) (fun _ _ _ h => h) (Or.inl ⟨by kernel_rfl, ?_⟩) hS ?_
                    · intro W' hSw
                      obtain ⟨s0, s1, s2, s3⟩ := hSw
                      go_simp
                    dsimp only [List.getElem_toArray, List.getElem_cons_zero, List.getElem_cons_succ, Act.put, List.setIfInBounds_toArray, List.set_cons_zero, List.set_cons_succ]
                    refine wpAnyH_call 6 25 #[tbV t ⟨pea, pec, paa, pac, some ⟨wb, wo, none⟩, pwc⟩, .int .i64 a, .int .i64 k] (.int .i64 (M.jnD t j c : Nat)) (by kernel_rfl) rfl (by kernel_rfl) (by kernel_rfl) (by have h := lawJoin_any t ⟨pea, pec, paa, pac, some ⟨wb, wo, none⟩, pwc⟩ a k _ HS.out HL.out hal hkl (HT.out.below HBD.out); rw [HAC.out] at h; exact h) ?_
                    intro w10 hB
                    have hS := hS.below hB
                    have HBD := Lib.hid (below2 HBD.out hB)
                    clear hB
                    refine ⟨hS, ?_⟩
                    dsimp only [List.getElem_toArray, List.getElem_cons_zero, List.getElem_cons_succ, Act.put, List.setIfInBounds_toArray, List.set_cons_zero, List.set_cons_succ]
                    refine wpAnyH_call 10 25 #[tbV t ⟨pea, pec, paa, pac, some ⟨wb, wo, none⟩, pwc⟩, .int .i64 j, .int .i64 c] (.int .i64 (M.jnD t j c : Nat)) (by kernel_rfl) rfl (by kernel_rfl) (by kernel_rfl) (lawJoin_any t ⟨pea, pec, paa, pac, some ⟨wb, wo, none⟩, pwc⟩ j c _ HS.out HL.out hjl hcl (HT.out.below HBD.out)) ?_
                    intro w11 hB
                    have hS := hS.below hB
                    have HBD := Lib.hid (below2 HBD.out hB)
                    clear hB
                    refine ⟨hS, ?_⟩
                    dsimp only [List.getElem_toArray, List.getElem_cons_zero, List.getElem_cons_succ, Act.put, List.setIfInBounds_toArray, List.set_cons_zero, List.set_cons_succ]
                    refine wpAnyH_take (i := 11) (v := .bool false) rfl (by kernel_rfl) (by kernel_rfl) (by kernel_rfl) (fun _ _ _ h => h) (Or.inl ⟨by kernel_rfl, ?_⟩) hS ?_
                    · intro W' hSw
                      obtain ⟨s0, s1, s2, s3⟩ := hSw
                      go_simp
                    dsimp only [List.getElem_toArray, List.getElem_cons_zero, List.getElem_cons_succ, Act.put, List.setIfInBounds_toArray, List.set_cons_zero, List.set_cons_succ]
                    refine wpAnyH_take (i := 12) (v := .bool false) rfl (by kernel_rfl) (by kernel_rfl) (by kernel_rfl) (fun _ _ _ h => h) (Or.inl ⟨by kernel_rfl, ?_⟩) hS ?_
                    · intro W' hSw
                      obtain ⟨s0, s1, s2, s3⟩ := hSw
                      go_simp
                    dsimp only [List.getElem_toArray, List.getElem_cons_zero, List.getElem_cons_succ, Act.put, List.setIfInBounds_toArray, List.set_cons_zero, List.set_cons_succ]
                    refine wpAnyH_take (i := 13) (v := .bool false) rfl (by kernel_rfl) (by kernel_rfl) (by kernel_rfl) (fun _ _ _ h => h) (Or.inl ⟨by kernel_rfl, ?_⟩) hS ?_
                    · intro W' hSw
                      obtain ⟨s0, s1, s2, s3⟩ := hSw
                      go_simp
                    dsimp only [List.getElem_toArray, List.getElem_cons_zero, List.getElem_cons_succ, Act.put, List.setIfInBounds_toArray, List.set_cons_zero, List.set_cons_succ]
                    refine wpAnyH_take (i := 14) (v := tbV t ⟨pea, pec, paa, pac, some ⟨wb, wo, none⟩, pwc⟩) rfl (by kernel_rfl) (by kernel_rfl) (by kernel_rfl) (fun _ _ _ h => h) (Or.inl ⟨by kernel_rfl, ?_⟩) hS ?_
                    · intro W' hSw
                      obtain ⟨s0, s1, s2, s3⟩ := hSw
                      go_simp
                    dsimp only [List.getElem_toArray, List.getElem_cons_zero, List.getElem_cons_succ, Act.put, List.setIfInBounds_toArray, List.set_cons_zero, List.set_cons_succ]
                    refine wpAnyH_take (i := 15) (v := .int .i64 a) rfl (by kernel_rfl) (by kernel_rfl) (by kernel_rfl) (fun _ _ _ h => h) (Or.inl ⟨by kernel_rfl, ?_⟩) hS ?_
                    · intro W' hSw
                      obtain ⟨s0, s1, s2, s3⟩ := hSw
                      go_simp
                    dsimp only [List.getElem_toArray, List.getElem_cons_zero, List.getElem_cons_succ, Act.put, List.setIfInBounds_toArray, List.set_cons_zero, List.set_cons_succ]
                    refine wpAnyH_take (i := 16) (v := .int .i64 c) rfl (by kernel_rfl) (by kernel_rfl) (by kernel_rfl) (fun _ _ _ h => h) (Or.inl ⟨by kernel_rfl, ?_⟩) hS ?_
                    · intro W' hSw
                      obtain ⟨s0, s1, s2, s3⟩ := hSw
                      go_simp
                    dsimp only [List.getElem_toArray, List.getElem_cons_zero, List.getElem_cons_succ, Act.put, List.setIfInBounds_toArray, List.set_cons_zero, List.set_cons_succ]
                    refine wpAnyH_call 17 26 #[tbV t ⟨pea, pec, paa, pac, some ⟨wb, wo, none⟩, pwc⟩, .int .i64 a, .int .i64 c] (.bool (M.leB t a c)) (by kernel_rfl) rfl (by kernel_rfl) (by kernel_rfl) (lawBelow_any t ⟨pea, pec, paa, pac, some ⟨wb, wo, none⟩, pwc⟩ a c _ HS.out HG.out.form hal hcl (HT.out.below HBD.out)) ?_
                    intro w12 hB
                    have hS := hS.below hB
                    have HBD := Lib.hid (below2 HBD.out hB)
                    clear hB
                    refine ⟨hS, ?_⟩
                    dsimp only [List.getElem_toArray, List.getElem_cons_zero, List.getElem_cons_succ, Act.put, List.setIfInBounds_toArray, List.set_cons_zero, List.set_cons_succ]
                    cases hac : M.leB t a c with
                    | false =>
                      refine wpAnyH_take (i := 18) (v := .bool false) rfl (by kernel_rfl) (by kernel_rfl) (by kernel_rfl) (fun _ _ _ h => h) (Or.inl ⟨by kernel_rfl, ?_⟩) hS ?_
                      · intro W' hSw
                        obtain ⟨s0, s1, s2, s3⟩ := hSw
                        go_simp
                      dsimp only [List.getElem_toArray, List.getElem_cons_zero, List.getElem_cons_succ, Act.put, List.setIfInBounds_toArray, List.set_cons_zero, List.set_cons_succ]
                      refine wpAnyH_take (i := 19) (v := undef) rfl (by kernel_rfl) (by kernel_rfl) (by kernel_rfl) (fun _ _ _ h => h) (Or.inr ⟨by kernel_rfl, rfl⟩) hS ?_
                      dsimp only [List.getElem_toArray, List.getElem_cons_zero, List.getElem_cons_succ, Act.put, List.setIfInBounds_toArray, List.set_cons_zero, List.set_cons_succ]
                      refine wpAnyH_take (i := 20) (v := undef) rfl (by kernel_rfl) (by kernel_rfl) (by kernel_rfl) (fun _ _ _ h => h) (Or.inr ⟨by kernel_rfl, rfl⟩) hS ?_
                      dsimp only [List.getElem_toArray, List.getElem_cons_zero, List.getElem_cons_succ, Act.put, List.setIfInBounds_toArray, List.set_cons_zero, List.set_cons_succ]
                      refine wpAnyH_take (i := 21) (v := undef) rfl (by kernel_rfl) (by kernel_rfl) (by kernel_rfl) (fun _ _ _ h => h) (Or.inr ⟨by kernel_rfl, rfl⟩) hS ?_
                      dsimp only [List.getElem_toArray, List.getElem_cons_zero, List.getElem_cons_succ, Act.put, List.setIfInBounds_toArray, List.set_cons_zero, List.set_cons_succ]
                      refine wpAnyH_take (i := 22) (v := undef) rfl (by kernel_rfl) (by kernel_rfl) (by kernel_rfl) (fun _ _ _ h => h) (Or.inr ⟨by kernel_rfl, rfl⟩) hS ?_
                      dsimp only [List.getElem_toArray, List.getElem_cons_zero, List.getElem_cons_succ, Act.put, List.setIfInBounds_toArray, List.set_cons_zero, List.set_cons_succ]
                      refine wpAnyH_take (i := 23) (v := .bool false) rfl (by kernel_rfl) (by kernel_rfl) (by kernel_rfl) (fun _ _ _ h => h) (Or.inl ⟨by kernel_rfl, ?_⟩) hS ?_
                      · intro W' hSw
                        obtain ⟨s0, s1, s2, s3⟩ := hSw
                        go_simp
                      dsimp only [List.getElem_toArray, List.getElem_cons_zero, List.getElem_cons_succ, Act.put, List.setIfInBounds_toArray, List.set_cons_zero, List.set_cons_succ]
                      refine wpAnyH_take (i := 24) (v := .bool false) rfl (by kernel_rfl) (by kernel_rfl) (by kernel_rfl) (fun _ _ _ h => h) (Or.inl ⟨by kernel_rfl, ?_⟩) hS ?_
                      · intro W' hSw
                        obtain ⟨s0, s1, s2, s3⟩ := hSw
                        go_simp
                      dsimp only [List.getElem_toArray, List.getElem_cons_zero, List.getElem_cons_succ, Act.put, List.setIfInBounds_toArray, List.set_cons_zero, List.set_cons_succ]
                      refine wpAnyH_take (i := 25) (v := undef) rfl (by kernel_rfl) (by kernel_rfl) (by kernel_rfl) (fun _ _ _ h => h) (Or.inr ⟨by kernel_rfl, rfl⟩) hS ?_
                      dsimp only [List.getElem_toArray, List.getElem_cons_zero, List.getElem_cons_succ, Act.put, List.setIfInBounds_toArray, List.set_cons_zero, List.set_cons_succ]
                      refine wpAnyH_take (i := 26) (v := undef) rfl (by kernel_rfl) (by kernel_rfl) (by kernel_rfl) (fun _ _ _ h => h) (Or.inr ⟨by kernel_rfl, rfl⟩) hS ?_
                      dsimp only [List.getElem_toArray, List.getElem_cons_zero, List.getElem_cons_succ, Act.put, List.setIfInBounds_toArray, List.set_cons_zero, List.set_cons_succ]
                      refine wpAnyH_take (i := 27) (v := undef) rfl (by kernel_rfl) (by kernel_rfl) (by kernel_rfl) (fun _ _ _ h => h) (Or.inr ⟨by kernel_rfl, rfl⟩) hS ?_
                      dsimp only [List.getElem_toArray, List.getElem_cons_zero, List.getElem_cons_succ, Act.put, List.setIfInBounds_toArray, List.set_cons_zero, List.set_cons_succ]
                      refine wpAnyH_take (i := 28) (v := undef) rfl (by kernel_rfl) (by kernel_rfl) (by kernel_rfl) (fun _ _ _ h => h) (Or.inr ⟨by kernel_rfl, rfl⟩) hS ?_
                      dsimp only [List.getElem_toArray, List.getElem_cons_zero, List.getElem_cons_succ, Act.put, List.setIfInBounds_toArray, List.set_cons_zero, List.set_cons_succ]
                      refine wpAnyH_take (i := 29) (v := undef) rfl (by kernel_rfl) (by kernel_rfl) (by kernel_rfl) (fun _ _ _ h => h) (Or.inr ⟨by kernel_rfl, rfl⟩) hS ?_
                      dsimp only [List.getElem_toArray, List.getElem_cons_zero, List.getElem_cons_succ, Act.put, List.setIfInBounds_toArray, List.set_cons_zero, List.set_cons_succ]
                      refine wpAnyH_take (i := 30) (v := .bool false) rfl (by kernel_rfl) (by kernel_rfl) (by kernel_rfl) (fun _ _ _ h => h) (Or.inl ⟨by kernel_rfl, ?_⟩) hS ?_
                      · intro W' hSw
                        obtain ⟨s0, s1, s2, s3⟩ := hSw
                        go_simp
                      dsimp only [List.getElem_toArray, List.getElem_cons_zero, List.getElem_cons_succ, Act.put, List.setIfInBounds_toArray, List.set_cons_zero, List.set_cons_succ]
                      refine wpAnyH_take (i := 31) (v := .bool false) rfl (by kernel_rfl) (by kernel_rfl) (by kernel_rfl) (fun _ _ _ h => h) (Or.inl ⟨by kernel_rfl, ?_⟩) hS ?_
                      · intro W' hSw
                        obtain ⟨s0, s1, s2, s3⟩ := hSw
                        go_simp
                      dsimp only [List.getElem_toArray, List.getElem_cons_zero, List.getElem_cons_succ, Act.put, List.setIfInBounds_toArray, List.set_cons_zero, List.set_cons_succ]
                      simp only [List.setIfInBounds_toArray, List.set_cons_succ, List.set_cons_zero]
                      refine wpAnyH_done (by kernel_rfl) ?_ _
                      go_wp2_with fail
                      go_meet
                      exact ⟨rfl, HBD⟩
                    | true =>
                      refine wpAnyH_take (i := 18) (v := .bool true) rfl (by kernel_rfl) (by kernel_rfl) (by kernel_rfl) (fun _ _ _ h => h) (Or.inl ⟨by kernel_rfl, ?_⟩) hS ?_
                      · intro W' hSw
                        obtain ⟨s0, s1, s2, s3⟩ := hSw
                        go_simp
                      dsimp only [List.getElem_toArray, List.getElem_cons_zero, List.getElem_cons_succ, Act.put, List.setIfInBounds_toArray, List.set_cons_zero, List.set_cons_succ]
                      refine wpAnyH_take (i := 19) (v := tbV t ⟨pea, pec, paa, pac, some ⟨wb, wo, none⟩, pwc⟩) rfl (by kernel_rfl) (by kernel_rfl) (by kernel_rfl) (fun _ _ _ h => h) (Or.inl ⟨by kernel_rfl, ?_⟩) hS ?_
                      · intro W' hSw
                        obtain ⟨s0, s1, s2, s3⟩ := hSw
                        go_simp
                      dsimp only [List.getElem_toArray, List.getElem_cons_zero, List.getElem_cons_succ, Act.put, List.setIfInBounds_toArray, List.set_cons_zero, List.set_cons_succ]
                      refine wpAnyH_take (i := 20) (v := .int .i64 b) rfl (by kernel_rfl) (by kernel_rfl) (by kernel_rfl) (fun _ _ _ h => h) (Or.inl ⟨by kernel_rfl, ?_⟩) hS ?_
                      · intro W' hSw
                        obtain ⟨s0, s1, s2, s3⟩ := hSw
                        go_simp
                      dsimp only [List.getElem_toArray, List.getElem_cons_zero, List.getElem_cons_succ, Act.put, List.setIfInBounds_toArray, List.set_cons_zero, List.set_cons_succ]
                      refine wpAnyH_take (i := 21) (v := .int .i64 c) rfl (by kernel_rfl) (by kernel_rfl) (by kernel_rfl) (fun _ _ _ h => h) (Or.inl ⟨by kernel_rfl, ?_⟩) hS ?_
                      · intro W' hSw
                        obtain ⟨s0, s1, s2, s3⟩ := hSw
                        go_simp
                      dsimp only [List.getElem_toArray, List.getElem_cons_zero, List.getElem_cons_succ, Act.put, List.setIfInBounds_toArray, List.set_cons_zero, List.set_cons_succ]
                      refine wpAnyH_call 22 26 #[tbV t ⟨pea, pec, paa, pac, some ⟨wb, wo, none⟩, pwc⟩, .int .i64 b, .int .i64 c] (.bool (M.leB t b c)) (by kernel_rfl) rfl (by kernel_rfl) (by kernel_rfl) (lawBelow_any t ⟨pea, pec, paa, pac, some ⟨wb, wo, none⟩, pwc⟩ b c _ HS.out HG.out.form hbl hcl (HT.out.below HBD.out)) ?_
                      intro w13 hB
                      have hS := hS.below hB
                      have HBD := Lib.hid (below2 HBD.out hB)
                      clear hB
                      refine ⟨hS, ?_⟩
                      dsimp only [List.getElem_toArray, List.getElem_cons_zero, List.getElem_cons_succ, Act.put, List.setIfInBounds_toArray, List.set_cons_zero, List.set_cons_succ]
                      cases hbc : M.leB t b c with
                      | false =>
                        refine wpAnyH_take (i := 23) (v := .bool false) rfl (by kernel_rfl) (by kernel_rfl) (by kernel_rfl) (fun _ _ _ h => h) (Or.inl ⟨by kernel_rfl, ?_⟩) hS ?_
                        · intro W' hSw
                          obtain ⟨s0, s1, s2, s3⟩ := hSw
                          go_simp
                        dsimp only [List.getElem_toArray, List.getElem_cons_zero, List.getElem_cons_succ, Act.put, List.setIfInBounds_toArray, List.set_cons_zero, List.set_cons_succ]
                        refine wpAnyH_take (i := 24) (v := .bool false) rfl (by kernel_rfl) (by kernel_rfl) (by kernel_rfl) (fun _ _ _ h => h) (Or.inl ⟨by kernel_rfl, ?_⟩) hS ?_
                        · intro W' hSw
                          obtain ⟨s0, s1, s2, s3⟩ := hSw
                          go_simp
                        dsimp only [List.getElem_toArray, List.getElem_cons_zero, List.getElem_cons_succ, Act.put, List.setIfInBounds_toArray, List.set_cons_zero, List.set_cons_succ]
                        refine wpAnyH_take (i := 25) (v := undef) rfl (by kernel_rfl) (by kernel_rfl) (by kernel_rfl) (fun _ _ _ h => h) (Or.inr ⟨by kernel_rfl, rfl⟩) hS ?_
                        dsimp only [List.getElem_toArray, List.getElem_cons_zero, List.getElem_cons_succ, Act.put, List.setIfInBounds_toArray, List.set_cons_zero, List.set_cons_succ]
                        refine wpAnyH_take (i := 26) (v := undef) rfl (by kernel_rfl) (by kernel_rfl) (by kernel_rfl) (fun _ _ _ h => h) (Or.inr ⟨by kernel_rfl, rfl⟩) hS ?_
                        dsimp only [List.getElem_toArray, List.getElem_cons_zero, List.getElem_cons_succ, Act.put, List.setIfInBounds_toArray, List.set_cons_zero, List.set_cons_succ]
                        refine wpAnyH_take (i := 27) (v := undef) rfl (by kernel_rfl) (by kernel_rfl) (by kernel_rfl) (fun _ _ _ h => h) (Or.inr ⟨by kernel_rfl, rfl⟩) hS ?_
                        dsimp only [List.getElem_toArray, List.getElem_cons_zero, List.getElem_cons_succ, Act.put, List.setIfInBounds_toArray, List.set_cons_zero, List.set_cons_succ]
                        refine wpAnyH_take (i := 28) (v := undef) rfl (by kernel_rfl) (by kernel_rfl) (by kernel_rfl) (fun _ _ _ h => h) (Or.inr ⟨by kernel_rfl, rfl⟩) hS ?_
                        dsimp only [List.getElem_toArray, List.getElem_cons_zero, List.getElem_cons_succ, Act.put, List.setIfInBounds_toArray, List.set_cons_zero, List.set_cons_succ]
                        refine wpAnyH_take (i := 29) (v := undef) rfl (by kernel_rfl) (by kernel_rfl) (by kernel_rfl) (fun _ _ _ h => h) (Or.inr ⟨by kernel_rfl, rfl⟩) hS ?_
                        dsimp only [List.getElem_toArray, List.getElem_cons_zero, List.getElem_cons_succ, Act.put, List.setIfInBounds_toArray, List.set_cons_zero, List.set_cons_succ]
                        refine wpAnyH_take (i := 30) (v := .bool false) rfl (by kernel_rfl) (by kernel_rfl) (by kernel_rfl) (fun _ _ _ h => h) (Or.inl ⟨by kernel_rfl, ?_⟩) hS ?_
                        · intro W' hSw
                          obtain ⟨s0, s1, s2, s3⟩ := hSw
                          go_simp
                        dsimp only [List.getElem_toArray, List.getElem_cons_zero, List.getElem_cons_succ, Act.put, List.setIfInBounds_toArray, List.set_cons_zero, List.set_cons_succ]
                        refine wpAnyH_take (i := 31) (v := .bool false) rfl (by kernel_rfl) (by kernel_rfl) (by kernel_rfl) (fun _ _ _ h => h) (Or.inl ⟨by kernel_rfl, ?_⟩) hS ?_
                        · intro W' hSw
                          obtain ⟨s0, s1, s2, s3⟩ := hSw
                          go_simp
                        dsimp only [List.getElem_toArray, List.getElem_cons_zero, List.getElem_cons_succ, Act.put, List.setIfInBounds_toArray, List.set_cons_zero, List.set_cons_succ]
                        simp only [List.setIfInBounds_toArray, List.set_cons_succ, List.set_cons_zero]
                        refine wpAnyH_done (by kernel_rfl) ?_ _
                        go_wp2_with fail
                        go_meet
                        exact ⟨rfl, HBD⟩
                      | true =>
                        refine wpAnyH_take (i := 23) (v := .bool true) rfl (by kernel_rfl) (by kernel_rfl) (by kernel_rfl) (fun _ _ _ h => h) (Or.inl ⟨by kernel_rfl, ?_⟩) hS ?_
                        · intro W' hSw
                          obtain ⟨s0, s1, s2, s3⟩ := hSw
                          go_simp
                        dsimp only [List.getElem_toArray, List.getElem_cons_zero, List.getElem_cons_succ, Act.put, List.setIfInBounds_toArray, List.set_cons_zero, List.set_cons_succ]
                        refine wpAnyH_take (i := 24) (v := .bool true) rfl (by kernel_rfl) (by kernel_rfl) (by kernel_rfl) (fun _ _ _ h => h) (Or.inl ⟨by kernel_rfl, ?_⟩) hS ?_
                        · intro W' hSw
                          obtain ⟨s0, s1, s2, s3⟩ := hSw
                          go_simp
                        dsimp only [List.getElem_toArray, List.getElem_cons_zero, List.getElem_cons_succ, Act.put, List.setIfInBounds_toArray, List.set_cons_zero, List.set_cons_succ]
                        refine wpAnyH_take (i := 25) (v := tbV t ⟨pea, pec, paa, pac, some ⟨wb, wo, none⟩, pwc⟩) rfl (by kernel_rfl) (by kernel_rfl) (by kernel_rfl) (fun _ _ _ h => h) (Or.inl ⟨by kernel_rfl, ?_⟩) hS ?_
                        · intro W' hSw
                          obtain ⟨s0, s1, s2, s3⟩ := hSw
                          go_simp
                        dsimp only [List.getElem_toArray, List.getElem_cons_zero, List.getElem_cons_succ, Act.put, List.setIfInBounds_toArray, List.set_cons_zero, List.set_cons_succ]
                        refine wpAnyH_take (i := 26) (v := .int .i64 j) rfl (by kernel_rfl) (by kernel_rfl) (by kernel_rfl) (fun _ _ _ h => h) (Or.inl ⟨by kernel_rfl, ?_⟩) hS ?_
                        · intro W' hSw
                          obtain ⟨s0, s1, s2, s3⟩ := hSw
                          go_simp
                        dsimp only [List.getElem_toArray, List.getElem_cons_zero, List.getElem_cons_succ, Act.put, List.setIfInBounds_toArray, List.set_cons_zero, List.set_cons_succ]
                        refine wpAnyH_take (i := 27) (v := .int .i64 c) rfl (by kernel_rfl) (by kernel_rfl) (by kernel_rfl) (fun _ _ _ h => h) (Or.inl ⟨by kernel_rfl, ?_⟩) hS ?_
                        · intro W' hSw
                          obtain ⟨s0, s1, s2, s3⟩ := hSw
                          go_simp
                        dsimp only [List.getElem_toArray, List.getElem_cons_zero, List.getElem_cons_succ, Act.put, List.setIfInBounds_toArray, List.set_cons_zero, List.set_cons_succ]
                        refine wpAnyH_call 28 26 #[tbV t ⟨pea, pec, paa, pac, some ⟨wb, wo, none⟩, pwc⟩, .int .i64 j, .int .i64 c] (.bool true) (by kernel_rfl) rfl (by kernel_rfl) (by kernel_rfl) (by have h := lawBelow_any t ⟨pea, pec, paa, pac, some ⟨wb, wo, none⟩, pwc⟩ j c _ HS.out HG.out.form hjl hcl (HT.out.below HBD.out); rw [HJ.out.least c hac hbc] at h; exact h) ?_
                        intro w14 hB
                        have hS := hS.below hB
                        have HBD := Lib.hid (below2 HBD.out hB)
                        clear hB
                        refine ⟨hS, ?_⟩
                        dsimp only [List.getElem_toArray, List.getElem_cons_zero, List.getElem_cons_succ, Act.put, List.setIfInBounds_toArray, List.set_cons_zero, List.set_cons_succ]
                        refine wpAnyH_take (i := 29) (v := .bool false) rfl (by kernel_rfl) (by kernel_rfl) (by kernel_rfl) (fun _ _ _ h => h) (Or.inl ⟨by kernel_rfl, ?_⟩) hS ?_
                        · intro W' hSw
                          obtain ⟨s0, s1, s2, s3⟩ := hSw
                          go_simp
                        dsimp only [List.getElem_toArray, List.getElem_cons_zero, List.getElem_cons_succ, Act.put, List.setIfInBounds_toArray, List.set_cons_zero, List.set_cons_succ]
                        refine wpAnyH_take (i := 30) (v := .bool false) rfl (by kernel_rfl) (by kernel_rfl) (by kernel_rfl) (fun _ _ _ h => h) (Or.inl ⟨by kernel_rfl, ?_⟩) hS ?_
                        · intro W' hSw
                          obtain ⟨s0, s1, s2, s3⟩ := hSw
                          go_simp
                        dsimp only [List.getElem_toArray, List.getElem_cons_zero, List.getElem_cons_succ, Act.put, List.setIfInBounds_toArray, List.set_cons_zero, List.set_cons_succ]
                        refine wpAnyH_take (i := 31) (v := .bool false) rfl (by kernel_rfl) (by kernel_rfl) (by kernel_rfl) (fun _ _ _ h => h) (Or.inl ⟨by kernel_rfl, ?_⟩) hS ?_
                        · intro W' hSw
                          obtain ⟨s0, s1, s2, s3⟩ := hSw
                          go_simp
                        dsimp only [List.getElem_toArray, List.getElem_cons_zero, List.getElem_cons_succ, Act.put, List.setIfInBounds_toArray, List.set_cons_zero, List.set_cons_succ]
                        simp only [List.setIfInBounds_toArray, List.set_cons_succ, List.set_cons_zero]
                        refine wpAnyH_done (by kernel_rfl) ?_ _
                        go_wp2_with fail
                        go_meet
                        exact ⟨rfl, HBD⟩
                  case rest =>
                    obtain ⟨rfl, HBX⟩ := hcut
                    have HB := HBX
                    clear c0 c1 c2 c3 HBX
                    obtain ⟨c0, c1, c2, c3⟩ := HX.out.below HB.out
                    go_wp2_with fail
                    go_roundw
                    case rel => exact ⟨c + 1, by omega, by go_num, HB⟩
                    case measure => simp [intOf]; omega
                · obtain rfl : c = t.elems.length := by omega
                  have q1 : decide ((t.elems.length : Int) < (t.elems.length : Int)) = false := decide_eq_false (by omega)
                  go_wp2_with fail
                  go_roundw
                  case rel => exact ⟨b + 1, by omega, by go_num, HB⟩
                  case measure => simp [intOf]; omega
          · obtain rfl : b = t.elems.length := by omega
            have q1 : decide ((t.elems.length : Int) < (t.elems.length : Int)) = false := decide_eq_false (by omega)
            go_wp2_with fail
            go_roundw
            case rel => exact ⟨a + 1, by omega, by go_num, HB⟩
            case measure => simp [intOf]; omega
      · obtain rfl : a = t.elems.length := by omega
        have q1 : decide ((t.elems.length : Int) < (t.elems.length : Int)) = false := decide_eq_false (by omega)
        go_wp2_with fail
        refine (awake_any _).mono ?_
        rintro e w2 ⟨rfl, hB2⟩
        have hB := below2 HBW.out (below2 HB.out hB2)
        clear c0 c1 c2 c3 hB2
        go_wp2_with fail
        go_ret
        exact ⟨rfl, hB⟩
  · clear c0 c1 c2 c3
    have HB := Lib.hid hB1
    go_wp2_with fail
    refine (awake_any _).mono ?_
    rintro e w2 ⟨rfl, hB2⟩
    have hB := below2 HBW.out (below2 HB.out hB2)
    clear hB2
    go_wp2_with fail
    go_ret
    exact ⟨rfl, hB⟩
end Go.Proofs.Ytlpindnbkgaplaa
