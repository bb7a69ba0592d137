/- DERIVED. The statement on breaks that tell of a pair, walked. -/
import Derived.Test.YtmgbdeomloklnaaGr27
import Derived.Deep.DeepCutAuto
namespace Go.Proofs.Ytmgbdeomloklnaa
open Go.RowKit

theorem nats_get (L : List Nat) (i : Nat) (h : i < L.length) : (nats L)[i]'(by rw [nats_len]; exact h) = (L[i] : Int) := by simp
theorem take_any {L : List Nat} {p : Nat → Bool} {i : Nat} (h : i < L.length) : (L.take (i + 1)).any p = ((L.take i).any p || p L[i]) := by
  rw [List.take_succ_eq_append_getElem h, List.any_append]; simp
theorem take_all {L : List Nat} {p : Nat → Bool} {i : Nat} (h : i < L.length) : (L.take (i + 1)).all p = ((L.take i).all p && p L[i]) := by
  rw [List.take_succ_eq_append_getElem h, List.all_append]; simp

set_option maxHeartbeats 16000000 in
set_option maxRecDepth 100000 in
theorem orderLeast_any (t : M.Tb) (p : Tp) (w : World) (ht : TbIn w t p) : Calls Try.prog 3 #[tbV t p] w fun e w' => e = .returned (.bool true) ∧ Below w.heap.size w w' := by
  have hmx : Try.prog.follows .mixedOrders = true := by kernel_rfl
  obtain ⟨i0, hi, hz0, hz1, hz2⟩ := info_parts intInfo
  have HI0 := Lib.hid hi
  have HZ0 := Lib.hid hz0
  have HZ1 := Lib.hid hz1
  have HZ2 := Lib.hid hz2
  clear hi hz0 hz1 hz2
  have HX := Lib.hid (tbBox (t := t) (p := p) (box_new w (tbA t p) 26))
  have HT := Lib.hid (ht.below (below1 w (.cells (tbA t p) 26)))
  have HBW := Lib.hid (below1 w (.cells (tbA t p) 26))
  have HC := Lib.hid (thinT_any t p (w.alloc (.cells (tbA t p) 26)) HT.out)
  obtain ⟨c0, c1, c2, c3⟩ := HX.out
  clear ht
  go_enter Try.func3, Try.ntmps3
  go_wp2_with fail
  generalize hW0 : w.alloc (.cells (tbA t p) 26) = W0 at *
  clear hW0
  refine HC.out.mono ?_
  rintro e w1 ⟨rfl, hB1⟩
  have HB := Lib.hid hB1
  clear c0 c1 c2 c3 hB1 HC
  cases hth : M.thinB t with
  | false =>
    go_wp2_with fail
    refine (awake_any _).mono ?_
    rintro e w2 ⟨rfl, hB2⟩
    have hB := below2 HBW.out (below2 HB.out hB2)
    clear hB2
    go_wp2_with fail
    go_ret
    exact ⟨rfl, hB⟩
  | true =>
    have HS := Lib.hid (small_of hth)
    clear hth
    obtain ⟨c0, c1, c2, c3⟩ := HX.out.below HB.out
    go_wp2_with fail
    refine (refCheck_any t p _ HS.out.hs HS.out.hes HS.out.h4 (HT.out.below HB.out)).mono ?_
    rintro e w2 ⟨⟨hf, rfl⟩ | ⟨_, rfl⟩, hB2⟩
    rotate_left
    · have HB := Lib.hid (below2 HB.out hB2)
      clear c0 c1 c2 c3 hB2
      go_wp2_with fail
      refine (awake_any _).mono ?_
      rintro e w3 ⟨rfl, hB3⟩
      have hB := below2 HBW.out (below2 HB.out hB3)
      clear hB3
      go_wp2_with fail
      go_ret
      exact ⟨rfl, hB⟩
    have HF := Lib.hid hf
    have HB := Lib.hid (below2 HB.out hB2)
    clear c0 c1 c2 c3 hB2 hf
    obtain ⟨c0, c1, c2, c3⟩ := HX.out.below HB.out
    go_wp2_with fail
    refine (copy_any t p _ HS.out.h1 HS.out.h2 HS.out.h3 HS.out.h4 (HT.out.below HB.out)).mono ?_
    rintro e w3 ⟨p', rfl, ht3, hB3⟩
    have HB := Lib.hid (below2 HB.out hB3)
    have HT3 := Lib.hid ht3
    clear c0 c1 c2 c3 hB3 ht3
    go_wp2_with fail
    refine (prove_any t p' w3 HS.out.h4 HT3.out).mono ?_
    rintro e w4 ⟨⟨h, _⟩ | ⟨_, hk, rfl⟩ | ⟨_, _, rfl⟩, hB4⟩
    · exact absurd HF.out h
    rotate_left
    · have HB := Lib.hid (below2 (below2 HB.out hB4) (below1 w4 (.cells br0 32)))
      have HZ := Lib.hid (z3_of (box_new w4 br0 32))
      obtain ⟨z0, z1, z2⟩ := HZ.out
      clear hB4
      go_wp2_with fail
      refine (awake_any _).mono ?_
      rintro e w5 ⟨rfl, hB5⟩
      have hB := below2 HBW.out (below2 HB.out hB5)
      clear hB5 z0 z1 z2
      go_wp2_with fail
      go_ret
      exact ⟨rfl, hB⟩
    have HB := Lib.hid (below2 (below2 HB.out hB4) (below1 w4 (.cells #[.int .u8 (M.brk t).1, .int .i64 (M.brk t).2.1, .int .i64 (M.brk t).2.2] 32)))
    have HZ := Lib.hid (box_new w4 #[.int .u8 (M.brk t).1, .int .i64 (M.brk t).2.1, .int .i64 (M.brk t).2.2] 32)
    clear hB4
    by_cases h34 : (M.brk t).1 = 3 ∨ (M.brk t).1 = 4
    rotate_left
    · have z0 : (w4.alloc (.cells #[.int .u8 (M.brk t).1, .int .i64 (M.brk t).2.1, .int .i64 (M.brk t).2.2] 32)).cell? ⟨w4.heap.size, 0, none⟩ = some (.int .u8 (M.brk t).1) := by rw [Lib.cell_of_heap HZ.out]; rfl
      have z1 : (w4.alloc (.cells #[.int .u8 (M.brk t).1, .int .i64 (M.brk t).2.1, .int .i64 (M.brk t).2.2] 32)).cell? ⟨w4.heap.size, 1, none⟩ = some (.int .i64 (M.brk t).2.1) := by rw [Lib.cell_of_heap HZ.out]; rfl
      have z2 : (w4.alloc (.cells #[.int .u8 (M.brk t).1, .int .i64 (M.brk t).2.1, .int .i64 (M.brk t).2.2] 32)).cell? ⟨w4.heap.size, 2, none⟩ = some (.int .i64 (M.brk t).2.2) := by rw [Lib.cell_of_heap HZ.out]; rfl
      have q3 : (M.brk t).1 ≠ 3 := fun h => h34 (Or.inl h)
      have q4 : (M.brk t).1 ≠ 4 := fun h => h34 (Or.inr h)
      have e3 : (((M.brk t).1 : Int) == 3) = false := by rw [beq_eq_false_iff_ne]; omega
      have e4 : (((M.brk t).1 : Int) == 4) = false := by rw [beq_eq_false_iff_ne]; omega
      have e0 : (((M.brk t).1 : Int) == 0) = false := by rw [beq_eq_false_iff_ne]; omega
      have n3 : decide (((M.brk t).1 : Int) = 3) = false := decide_eq_false (by omega)
      have n4 : decide (((M.brk t).1 : Int) = 4) = false := decide_eq_false (by omega)
      have n0 : decide (((M.brk t).1 : Int) = 0) = false := decide_eq_false (by omega)
      have p3 : ¬ ((M.brk t).1 : Int) = 3 := by omega
      have p4 : ¬ ((M.brk t).1 : Int) = 4 := by omega
      have p0 : ¬ ((M.brk t).1 : Int) = 0 := by omega
      have r3 : (((M.brk t).1 : Int) != 3) = true := by simpa using p3
      have r4 : (((M.brk t).1 : Int) != 4) = true := by simpa using p4
      clear h34
      go_wp2_with fail
      refine (awake_any _).mono ?_
      rintro e w5 ⟨rfl, hB5⟩
      have hB := below2 HBW.out (below2 HB.out hB5)
      clear hB5 z0 z1 z2
      go_wp2_with fail
      go_ret
      exact ⟨rfl, hB⟩
    obtain ⟨xa, xb, hbk, hab, hxb, hjn, hp1, hp2⟩ := M.brk_inv h34
    have HZ := Lib.hid (show (w4.alloc (.cells #[.int .u8 (M.brk t).1, .int .i64 (M.brk t).2.1, .int .i64 (M.brk t).2.2] 32)).heap[w4.heap.size]? = some (.cells #[.int .u8 (M.kindM t xa xb : Nat), .int .i64 xa, .int .i64 xb] 32 (0, 0)) by rw [HZ.out, hbk])
    have HKI := Lib.hid (M.kindM_iff t xa xb)
    rw [hbk] at h34 hk ⊢
    dsimp only at h34 hk ⊢
    have HJN := Lib.hid hjn
    have HP1 := Lib.hid hp1
    have HP2 := Lib.hid hp2
    have H34 := Lib.hid h34
    rw [hbk] at HZ HB
    dsimp only at HZ HB
    go_upto_region 4 with fail
    generalize hW5 : w4.alloc (.cells #[.int .u8 (M.kindM t xa xb : Nat), .int .i64 xa, .int .i64 xb] 32) = W5 at *
    have HW5 := Lib.hid (show w4.heap.size < W5.heap.size by rw [← hW5]; simp)
    generalize w4.heap.size = Bx at *
    clear hW5 hjn hp1 hp2 h34 hk hbk
    have z0 : W5.cell? ⟨Bx, 0, none⟩ = some (.int .u8 (M.kindM t xa xb : Nat)) := by rw [Lib.cell_of_heap HZ.out]; rfl
    have h12 := HF.out.twelve
    obtain ⟨c0, c1, c2, c3⟩ := HX.out.below HB.out
    go_cut [39] from 28 to 48 (fun c wx => c = .bool false ∧ W5 = wx)
    case first =>
      rcases H34.out with h | h
      · rw [h] at z0
        go_wp2_with fail
        go_meet
        exact ⟨rfl, rfl⟩
      · rw [h] at z0
        go_wp2_with fail
        go_meet
        exact ⟨rfl, rfl⟩
    case rest =>
      obtain ⟨rfl, rfl⟩ := hcut
      clear z0
      go_wp2_with fail
      go_loopw [5] (fun i wr => ∃ a : Nat, a ≤ xa ∧ i = .int .i64 a ∧ Hid (Below W5.heap.size W5 wr)) (fun i _ => t.elems.length - (intOf i).toNat)
      case atStart => exact ⟨0, by omega, rfl, Lib.hid (Below.refl _ _)⟩
      case round =>
        clear c0 c1 c2 c3
        rename World => wr
        obtain ⟨a, ha, rfl, HQ⟩ := hrel
        obtain ⟨c0, c1, c2, c3⟩ := HX.out.below (below2 HB.out HQ.out)
        have hal : a < t.elems.length := by omega
        have n1 : (a : Int) < (t.elems.length : Int) := by omega
        have n2 : (0 : Int) ≤ (a : Int) := by omega
        go_wp2_with fail
        go_loopw [6] (fun i wr => ∃ b : Nat, a < b ∧ b ≤ t.elems.length ∧ (a = xa → b ≤ xb) ∧ i = .int .i64 b ∧ Hid (Below W5.heap.size W5 wr)) (fun i _ => t.elems.length - (intOf i).toNat)
        case atStart => exact ⟨a + 1, by omega, by omega, by omega, by simp, HQ⟩
        case round =>
          clear c0 c1 c2 c3 HQ
          rename World => wr
          obtain ⟨b, hab', hb, hbx, rfl, HQ⟩ := hrel
          obtain ⟨c0, c1, c2, c3⟩ := HX.out.below (below2 HB.out HQ.out)
          have hz5 := HW5.out
          by_cases hbl : b < t.elems.length
          · have m1 : (b : Int) < (t.elems.length : Int) := by omega
            have m2 : (0 : Int) ≤ (b : Int) := by omega
            go_wp2_with fail
            go_loopw [7, 8] (fun v i wo => ∃ k : Nat, k ≤ t.elems.length ∧ i = .int .i64 k ∧ Hid (wo.ownsRow wr.heap.size 3 1 v (M.bndTo t a b k).length (natCs (M.bndTo t a b k))) ∧ Hid (Below wr.heap.size wr wo)) (fun _ i _ => t.elems.length - (intOf i).toNat)
            case atStart => exact ⟨0, by omega, rfl, Lib.hid ⟨rfl, Or.inl ⟨rfl, rfl⟩⟩, Lib.hid (Below.refl _ _)⟩
            case round =>
              clear c0 c1 c2 c3
              have HQ0 := HQ
              clear HQ
              rename World => wo
              obtain ⟨k, hk, rfl, HO, HBO⟩ := hrel
              have HQ := Lib.hid (below2 HQ0.out HBO.out)
              obtain ⟨c0, c1, c2, c3⟩ := HX.out.below (below2 HB.out HQ.out)
              obtain ⟨av, ac, rfl⟩ := own_slice HO.out
              by_cases hkl : k < t.elems.length
              · have k1 : (k : Int) < (t.elems.length : Int) := by omega
                have k2 : (0 : Int) ≤ (k : Int) := by omega
                go_wp2_with fail
                refine (lawBelow_any t p a k _ HS.out HF.out hal hkl (HT.out.below (below2 HB.out HQ.out))).mono ?_
                rintro e w11 ⟨rfl, hB11⟩
                have HO := Lib.hid (own_below HO.out hB11)
                have HBO := Lib.hid (below2 HBO.out hB11)
                have HQ := Lib.hid (below2 HQ.out hB11)
                clear c0 c1 c2 c3 hB11
                obtain ⟨c0, c1, c2, c3⟩ := HX.out.below (below2 HB.out HQ.out)
                cases hA : M.leB t a k with
                | false =>
                  have HN := Lib.hid (M.bndTo_no t a b k (by rw [hA]; rfl))
                  clear hA
                  go_wp2_with fail
                  go_roundw
                  case rel => exact ⟨k + 1, by omega, by go_num, Lib.hid (by rw [HN.out]; exact HO.out), HBO⟩
                  case measure => simp [intOf]; omega
                | true =>
                  go_wp2_with fail
                  refine (lawBelow_any t p b k _ HS.out HF.out hbl hkl (HT.out.below (below2 HB.out HQ.out))).mono ?_
                  rintro e w12 ⟨rfl, hB12⟩
                  have HO := Lib.hid (own_below HO.out hB12)
                  have HBO := Lib.hid (below2 HBO.out hB12)
                  have HQ := Lib.hid (below2 HQ.out hB12)
                  clear c0 c1 c2 c3 hB12
                  obtain ⟨c0, c1, c2, c3⟩ := HX.out.below (below2 HB.out HQ.out)
                  cases hBb : M.leB t b k with
                  | false =>
                    have HN := Lib.hid (M.bndTo_no t a b k (by rw [hA, hBb]; rfl))
                    clear hA hBb
                    go_wp2_with fail
                    go_roundw
                    case rel => exact ⟨k + 1, by omega, by go_num, Lib.hid (by rw [HN.out]; exact HO.out), HBO⟩
                    case measure => simp [intOf]; omega
                  | true =>
                    have HN := Lib.hid (M.bndTo_yes t a b k (by rw [hA, hBb]; rfl))
                    have hle := M.bndTo_len t a b k
                    clear hA hBb
                    have hi := HI0.out
                    have hz0 := HZ0.out
                    have hz1 := HZ1.out
                    have hz2 := HZ2.out
                    have hzo := HBO.out.size
                    go_wp2_with (at_builtin; refine wpList_append_own _ rfl _ _ 36 rfl wr.heap.size 3 i0 (.int .i64 0) 1 8 Try.underlying36 hi hz0 hz1 hz2 rfl (by decide) _ _ _ rfl (HO.out.alloc _) ⟨w12.heap.size, 0, none⟩ 1 1 [.int .i64 k] rfl rfl ?c1 ?c2 ?c3 ?c4 ?c5 ?_)
                    case c1 =>
                      intro j u hj
                      match j, hj with
                      | 0, hj => simp at hj; subst hj; simp [Addr.add]
                    case c2 => intro u hu; simp at hu; subst hu; rfl
                    case c3 => unfold maxLen; omega
                    case c4 => omega
                    case c5 => simp; omega
                    intro v' w3 hown3 hgrow _
                    have HBO := Lib.hid ((HBO.out.alloc hzo _).grown hgrow (by simp; omega) (fun j hj => (HO.out.lt j hj).1))
                    have R1 := Lib.hid hown3
                    clear hown3 hgrow hi hz0 hz1 hz2 hzo c0 c1 c2 c3
                    obtain ⟨bv, bc', rfl⟩ := own_slice R1.out
                    go_wp2_with fail
                    go_roundw
                    case rel =>
                      refine ⟨k + 1, by omega, by go_num, Lib.hid ?_, HBO⟩
                      rw [HN.out, List.length_append, natCs_snoc]
                      exact R1.out
                    case measure => simp [intOf]; omega
              · obtain rfl : k = t.elems.length := by omega
                have k1 : decide ((t.elems.length : Int) < (t.elems.length : Int)) = false := decide_eq_false (by omega)
                have ho := HO.out
                rw [M.bndTo_all, ← nats_len (M.bnd t a b)] at ho
                unfold natCs at ho
                obtain ⟨la, lc, e, h1, h2, h3⟩ := own_int ho
                rw [M.bndTo_all]
                have e1 : Value.slice av (M.bnd t a b).length ac = .slice la (M.bnd t a b).length lc := by rw [nats_len] at e; exact e
                rw [e1]
                have hL12 : (M.bnd t a b).length ≤ 12 := Nat.le_trans (M.bndTo_len t a b t.elems.length) h12
                have HJS := Lib.hid (show (M.bnd t a b).any (fun x => (M.bnd t a b).all (M.leB t x)) = (M.jn t a b).isSome from (M.lst_some (L := M.bnd t a b)).symm)
                have HKI2 := Lib.hid (show a = xa → b = xb → (M.kindM t xa xb = 3 ↔ (M.bnd t a b).length = 0) from fun e1 e2 => by rw [e1, e2, HKI.out, List.length_eq_zero_iff])
                have HLT := Lib.hid (show ∀ x, x ∈ M.bnd t a b → x < t.elems.length from fun x hx => (M.mem_bnd.1 hx).1)
                have HLS := Lib.hid h3
                clear h1 h2 h3 ho e e1 HO HBO HQ0
                generalize hL : M.bnd t a b = L at *
                clear hL
                go_wp2_with fail
                go_loopw [9, 10] (fun v i wo => ∃ j : Nat, j ≤ L.length ∧ i = .int .i64 j ∧ v = .bool ((L.take j).any fun x => L.all (M.leB t x)) ∧ Hid (IntSl wo la (nats L)) ∧ Hid (Below W5.heap.size W5 wo)) (fun _ i _ => L.length - (intOf i).toNat)
                case atStart => exact ⟨0, by omega, rfl, by simp, HLS, HQ⟩
                case round =>
                  clear c0 c1 c2 c3 HQ HLS
                  rename World => wp
                  obtain ⟨j, hj, rfl, rfl, HLS, HQ⟩ := hrel
                  obtain ⟨c0, c1, c2, c3⟩ := HX.out.below (below2 HB.out HQ.out)
                  by_cases hjl : j < L.length
                  · have j1 : (j : Int) < (L.length : Int) := by omega
                    have j2 : (0 : Int) ≤ (j : Int) := by omega
                    have hxl := HLT.out _ (List.getElem_mem hjl)
                    generalize hso : ((L.take j).any fun x => L.all (M.leB t x)) = so
                    go_wp2_with fail
                    go_loopw [11, 12] (fun v i wo => ∃ k : Nat, k ≤ L.length ∧ i = .int .i64 k ∧ v = .bool ((L.take k).all (M.leB t L[j])) ∧ Hid (IntSl wo la (nats L)) ∧ Hid (Below W5.heap.size W5 wo)) (fun _ i _ => L.length - (intOf i).toNat)
                    case atStart => exact ⟨0, by omega, rfl, by simp, HLS, HQ⟩
                    case round =>
                      clear c0 c1 c2 c3 HQ HLS
                      rename World => wq
                      obtain ⟨k, hk', rfl, rfl, HLS, HQ⟩ := hrel
                      obtain ⟨c0, c1, c2, c3⟩ := HX.out.below (below2 HB.out HQ.out)
                      by_cases hkl' : k < L.length
                      · have q1 : (k : Int) < (L.length : Int) := by omega
                        have q2 : (0 : Int) ≤ (k : Int) := by omega
                        have hyl := HLT.out _ (List.getElem_mem hkl')
                        have HTA := Lib.hid (take_all (p := M.leB t L[j]) hkl')
                        generalize hal2 : (L.take k).all (M.leB t L[j]) = al at *
                        obtain ⟨gb, go, ela, hat⟩ := HLS.out.at (i := j) (by rw [nats_len]; exact hjl)
                        subst ela
                        have r1 : wq.cell? ⟨gb, go + j, none⟩ = some (.int .i64 (L[j] : Nat)) := by rw [hat.at_ j (by rw [nats_len]; exact hjl), nats_get L j hjl]
                        have r2 : wq.cell? ⟨gb, go + k, none⟩ = some (.int .i64 (L[k] : Nat)) := by rw [hat.at_ k (by rw [nats_len]; exact hkl'), nats_get L k hkl']
                        have R1 := Lib.hid r1
                        have R2 := Lib.hid r2
                        clear r1 r2 hat hal2
                        go_upto_region 26 with fail
                        have hS := And.intro (And.intro R1.out R2.out) (HX.out.below (below2 HB.out HQ.out))
                        have HQD := Lib.hid (below2 HQ.out (Below.refl _ _).drew)
                        clear c0 c1 c2 c3
                        cases al with
                        | false =>
                          have HTA := Lib.hid (show (L.take (k + 1)).all (M.leB t L[j]) = false by rw [HTA.out]; rfl)
                          have hS := And.intro (And.intro (cell_below hS.1.1 (Below.refl _ _).drew) (cell_below hS.1.2 (Below.refl _ _).drew)) (hS.2.below (Below.refl _ _).drew)
                          refine wp_region_held (S := fun W => ((W.cell? ⟨gb, go + j, none⟩ = some (.int .i64 (L[j] : Nat)) ∧ W.cell? ⟨gb, go + k, none⟩ = some (.int .i64 (L[k] : Nat))) ∧ TbBox W w.heap.size t p)) hmx ?_
                          change wpAnyH _ _ _ _ _ _ _ _ (wq).drew
                          refine wpAnyH_take (i := 0) (v := .bool false) rfl (by kernel_rfl) (by kernel_rfl) (by kernel_rfl) (fun _ _ _ h => h) (Or.inl ⟨by kernel_rfl, ?_⟩) hS ?_
                          · intro W' hSw
                            obtain ⟨⟨r1, r2⟩, ⟨s0, s1, s2, s3⟩⟩ := hSw
                            go_simp
                          dsimp only [List.getElem_toArray, List.getElem_cons_zero, List.getElem_cons_succ, Act.put, List.setIfInBounds_toArray, List.set_cons_zero, List.set_cons_succ]
                          refine wpAnyH_take (i := 1) (v := .bool false) rfl (by kernel_rfl) (by kernel_rfl) (by kernel_rfl) (fun _ _ _ h => h) (Or.inl ⟨by kernel_rfl, ?_⟩) hS ?_
                          · intro W' hSw
                            obtain ⟨⟨r1, r2⟩, ⟨s0, s1, s2, s3⟩⟩ := hSw
                            go_simp
                          dsimp only [List.getElem_toArray, List.getElem_cons_zero, List.getElem_cons_succ, Act.put, List.setIfInBounds_toArray, List.set_cons_zero, List.set_cons_succ]
                          refine wpAnyH_take (i := 2) (v := undef) rfl (by kernel_rfl) (by kernel_rfl) (by kernel_rfl) (fun _ _ _ h => h) (Or.inr ⟨by kernel_rfl, rfl⟩) hS ?_
                          dsimp only [List.getElem_toArray, List.getElem_cons_zero, List.getElem_cons_succ, Act.put, List.setIfInBounds_toArray, List.set_cons_zero, List.set_cons_succ]
                          refine wpAnyH_take (i := 3) (v := undef) rfl (by kernel_rfl) (by kernel_rfl) (by kernel_rfl) (fun _ _ _ h => h) (Or.inr ⟨by kernel_rfl, rfl⟩) hS ?_
                          dsimp only [List.getElem_toArray, List.getElem_cons_zero, List.getElem_cons_succ, Act.put, List.setIfInBounds_toArray, List.set_cons_zero, List.set_cons_succ]
                          refine wpAnyH_take (i := 4) (v := undef) rfl (by kernel_rfl) (by kernel_rfl) (by kernel_rfl) (fun _ _ _ h => h) (Or.inr ⟨by kernel_rfl, rfl⟩) hS ?_
                          dsimp only [List.getElem_toArray, List.getElem_cons_zero, List.getElem_cons_succ, Act.put, List.setIfInBounds_toArray, List.set_cons_zero, List.set_cons_succ]
                          refine wpAnyH_take (i := 5) (v := undef) rfl (by kernel_rfl) (by kernel_rfl) (by kernel_rfl) (fun _ _ _ h => h) (Or.inr ⟨by kernel_rfl, rfl⟩) hS ?_
                          dsimp only [List.getElem_toArray, List.getElem_cons_zero, List.getElem_cons_succ, Act.put, List.setIfInBounds_toArray, List.set_cons_zero, List.set_cons_succ]
                          refine wpAnyH_take (i := 6) (v := undef) rfl (by kernel_rfl) (by kernel_rfl) (by kernel_rfl) (fun _ _ _ h => h) (Or.inr ⟨by kernel_rfl, rfl⟩) hS ?_
                          dsimp only [List.getElem_toArray, List.getElem_cons_zero, List.getElem_cons_succ, Act.put, List.setIfInBounds_toArray, List.set_cons_zero, List.set_cons_succ]
                          refine wpAnyH_take (i := 7) (v := undef) rfl (by kernel_rfl) (by kernel_rfl) (by kernel_rfl) (fun _ _ _ h => h) (Or.inr ⟨by kernel_rfl, rfl⟩) hS ?_
                          dsimp only [List.getElem_toArray, List.getElem_cons_zero, List.getElem_cons_succ, Act.put, List.setIfInBounds_toArray, List.set_cons_zero, List.set_cons_succ]
                          refine wpAnyH_take (i := 8) (v := undef) rfl (by kernel_rfl) (by kernel_rfl) (by kernel_rfl) (fun _ _ _ h => h) (Or.inr ⟨by kernel_rfl, rfl⟩) hS ?_
                          dsimp only [List.getElem_toArray, List.getElem_cons_zero, List.getElem_cons_succ, Act.put, List.setIfInBounds_toArray, List.set_cons_zero, List.set_cons_succ]
                          refine wpAnyH_take (i := 9) (v := undef) rfl (by kernel_rfl) (by kernel_rfl) (by kernel_rfl) (fun _ _ _ h => h) (Or.inr ⟨by kernel_rfl, rfl⟩) hS ?_
                          dsimp only [List.getElem_toArray, List.getElem_cons_zero, List.getElem_cons_succ, Act.put, List.setIfInBounds_toArray, List.set_cons_zero, List.set_cons_succ]
                          refine wpAnyH_take (i := 10) (v := undef) rfl (by kernel_rfl) (by kernel_rfl) (by kernel_rfl) (fun _ _ _ h => h) (Or.inr ⟨by kernel_rfl, rfl⟩) hS ?_
                          dsimp only [List.getElem_toArray, List.getElem_cons_zero, List.getElem_cons_succ, Act.put, List.setIfInBounds_toArray, List.set_cons_zero, List.set_cons_succ]
                          refine wpAnyH_take (i := 11) (v := undef) rfl (by kernel_rfl) (by kernel_rfl) (by kernel_rfl) (fun _ _ _ h => h) (Or.inr ⟨by kernel_rfl, rfl⟩) hS ?_
                          dsimp only [List.getElem_toArray, List.getElem_cons_zero, List.getElem_cons_succ, Act.put, List.setIfInBounds_toArray, List.set_cons_zero, List.set_cons_succ]
                          refine wpAnyH_take (i := 12) (v := .bool false) rfl (by kernel_rfl) (by kernel_rfl) (by kernel_rfl) (fun _ _ _ h => h) (Or.inl ⟨by kernel_rfl, ?_⟩) hS ?_
                          · intro W' hSw
                            obtain ⟨⟨r1, r2⟩, ⟨s0, s1, s2, s3⟩⟩ := hSw
                            go_simp
                          dsimp only [List.getElem_toArray, List.getElem_cons_zero, List.getElem_cons_succ, Act.put, List.setIfInBounds_toArray, List.set_cons_zero, List.set_cons_succ]
                          refine wpAnyH_take (i := 13) (v := .bool false) rfl (by kernel_rfl) (by kernel_rfl) (by kernel_rfl) (fun _ _ _ h => h) (Or.inl ⟨by kernel_rfl, ?_⟩) hS ?_
                          · intro W' hSw
                            obtain ⟨⟨r1, r2⟩, ⟨s0, s1, s2, s3⟩⟩ := hSw
                            go_simp
                          dsimp only [List.getElem_toArray, List.getElem_cons_zero, List.getElem_cons_succ, Act.put, List.setIfInBounds_toArray, List.set_cons_zero, List.set_cons_succ]
                          try simp only [List.setIfInBounds_toArray, List.set_cons_succ, List.set_cons_zero]
                          refine wpAnyH_done (by kernel_rfl) ?_ _
                          go_wp2_with fail
                          go_roundw
                          case rel => exact ⟨k + 1, by omega, by go_num, by rw [HTA.out], Lib.hid (HLS.out.below (Below.refl _ _).drew), HQD⟩
                          case measure => simp [intOf]; omega
                        | true =>
                          have HTA := Lib.hid (show (L.take (k + 1)).all (M.leB t L[j]) = M.leB t L[j] L[k] by rw [HTA.out]; rfl)
                          have hS := And.intro (And.intro (cell_below hS.1.1 (Below.refl _ _).drew) (cell_below hS.1.2 (Below.refl _ _).drew)) (hS.2.below (Below.refl _ _).drew)
                          refine wp_region_held (S := fun W => ((W.cell? ⟨gb, go + j, none⟩ = some (.int .i64 (L[j] : Nat)) ∧ W.cell? ⟨gb, go + k, none⟩ = some (.int .i64 (L[k] : Nat))) ∧ TbBox W w.heap.size t p)) hmx ?_
                          change wpAnyH _ _ _ _ _ _ _ _ (wq).drew
                          refine wpAnyH_take (i := 0) (v := .bool true) rfl (by kernel_rfl) (by kernel_rfl) (by kernel_rfl) (fun _ _ _ h => h) (Or.inl ⟨by kernel_rfl, ?_⟩) hS ?_
                          · intro W' hSw
                            obtain ⟨⟨r1, r2⟩, ⟨s0, s1, s2, s3⟩⟩ := hSw
                            go_simp
                          dsimp only [List.getElem_toArray, List.getElem_cons_zero, List.getElem_cons_succ, Act.put, List.setIfInBounds_toArray, List.set_cons_zero, List.set_cons_succ]
                          refine wpAnyH_take (i := 1) (v := .bool true) rfl (by kernel_rfl) (by kernel_rfl) (by kernel_rfl) (fun _ _ _ h => h) (Or.inl ⟨by kernel_rfl, ?_⟩) hS ?_
                          · intro W' hSw
                            obtain ⟨⟨r1, r2⟩, ⟨s0, s1, s2, s3⟩⟩ := hSw
                            go_simp
                          dsimp only [List.getElem_toArray, List.getElem_cons_zero, List.getElem_cons_succ, Act.put, List.setIfInBounds_toArray, List.set_cons_zero, List.set_cons_succ]
                          refine wpAnyH_take (i := 2) (v := tbV t p) rfl (by kernel_rfl) (by kernel_rfl) (by kernel_rfl) (fun _ _ _ h => h) (Or.inl ⟨by kernel_rfl, ?_⟩) hS ?_
                          · intro W' hSw
                            obtain ⟨⟨r1, r2⟩, ⟨s0, s1, s2, s3⟩⟩ := hSw
                            go_simp
                          dsimp only [List.getElem_toArray, List.getElem_cons_zero, List.getElem_cons_succ, Act.put, List.setIfInBounds_toArray, List.set_cons_zero, List.set_cons_succ]
                          refine wpAnyH_take (i := 3) (v := .slice (some ⟨gb, go, none⟩) L.length lc) rfl (by kernel_rfl) (by kernel_rfl) (by kernel_rfl) (fun _ _ _ h => h) (Or.inl ⟨by kernel_rfl, ?_⟩) hS ?_
                          · intro W' hSw
                            obtain ⟨⟨r1, r2⟩, ⟨s0, s1, s2, s3⟩⟩ := hSw
                            go_simp
                          dsimp only [List.getElem_toArray, List.getElem_cons_zero, List.getElem_cons_succ, Act.put, List.setIfInBounds_toArray, List.set_cons_zero, List.set_cons_succ]
                          refine wpAnyH_take (i := 4) (v := .int .i64 j) rfl (by kernel_rfl) (by kernel_rfl) (by kernel_rfl) (fun _ _ _ h => h) (Or.inl ⟨by kernel_rfl, ?_⟩) hS ?_
                          · intro W' hSw
                            obtain ⟨⟨r1, r2⟩, ⟨s0, s1, s2, s3⟩⟩ := hSw
                            go_simp
                          dsimp only [List.getElem_toArray, List.getElem_cons_zero, List.getElem_cons_succ, Act.put, List.setIfInBounds_toArray, List.set_cons_zero, List.set_cons_succ]
                          refine wpAnyH_take (i := 5) (v := .pointer (some ⟨gb, go + j, none⟩)) rfl (by kernel_rfl) (by kernel_rfl) (by kernel_rfl) (fun _ _ _ h => h) (Or.inl ⟨by kernel_rfl, ?_⟩) hS ?_
                          · intro W' hSw
                            obtain ⟨⟨r1, r2⟩, ⟨s0, s1, s2, s3⟩⟩ := hSw
                            go_simp
                          dsimp only [List.getElem_toArray, List.getElem_cons_zero, List.getElem_cons_succ, Act.put, List.setIfInBounds_toArray, List.set_cons_zero, List.set_cons_succ]
                          refine wpAnyH_take (i := 6) (v := .int .i64 (L[j] : Nat)) rfl (by kernel_rfl) (by kernel_rfl) (by kernel_rfl) (fun _ _ _ h => h) (Or.inl ⟨by kernel_rfl, ?_⟩) hS ?_
                          · intro W' hSw
                            obtain ⟨⟨r1, r2⟩, ⟨s0, s1, s2, s3⟩⟩ := hSw
                            go_simp
                          dsimp only [List.getElem_toArray, List.getElem_cons_zero, List.getElem_cons_succ, Act.put, List.setIfInBounds_toArray, List.set_cons_zero, List.set_cons_succ]
                          refine wpAnyH_take (i := 7) (v := .slice (some ⟨gb, go, none⟩) L.length lc) rfl (by kernel_rfl) (by kernel_rfl) (by kernel_rfl) (fun _ _ _ h => h) (Or.inl ⟨by kernel_rfl, ?_⟩) hS ?_
                          · intro W' hSw
                            obtain ⟨⟨r1, r2⟩, ⟨s0, s1, s2, s3⟩⟩ := hSw
                            go_simp
                          dsimp only [List.getElem_toArray, List.getElem_cons_zero, List.getElem_cons_succ, Act.put, List.setIfInBounds_toArray, List.set_cons_zero, List.set_cons_succ]
                          refine wpAnyH_take (i := 8) (v := .int .i64 k) rfl (by kernel_rfl) (by kernel_rfl) (by kernel_rfl) (fun _ _ _ h => h) (Or.inl ⟨by kernel_rfl, ?_⟩) hS ?_
                          · intro W' hSw
                            obtain ⟨⟨r1, r2⟩, ⟨s0, s1, s2, s3⟩⟩ := hSw
                            go_simp
                          dsimp only [List.getElem_toArray, List.getElem_cons_zero, List.getElem_cons_succ, Act.put, List.setIfInBounds_toArray, List.set_cons_zero, List.set_cons_succ]
                          refine wpAnyH_take (i := 9) (v := .pointer (some ⟨gb, go + k, none⟩)) rfl (by kernel_rfl) (by kernel_rfl) (by kernel_rfl) (fun _ _ _ h => h) (Or.inl ⟨by kernel_rfl, ?_⟩) hS ?_
                          · intro W' hSw
                            obtain ⟨⟨r1, r2⟩, ⟨s0, s1, s2, s3⟩⟩ := hSw
                            go_simp
                          dsimp only [List.getElem_toArray, List.getElem_cons_zero, List.getElem_cons_succ, Act.put, List.setIfInBounds_toArray, List.set_cons_zero, List.set_cons_succ]
                          refine wpAnyH_take (i := 10) (v := .int .i64 (L[k] : Nat)) rfl (by kernel_rfl) (by kernel_rfl) (by kernel_rfl) (fun _ _ _ h => h) (Or.inl ⟨by kernel_rfl, ?_⟩) hS ?_
                          · intro W' hSw
                            obtain ⟨⟨r1, r2⟩, ⟨s0, s1, s2, s3⟩⟩ := hSw
                            go_simp
                          dsimp only [List.getElem_toArray, List.getElem_cons_zero, List.getElem_cons_succ, Act.put, List.setIfInBounds_toArray, List.set_cons_zero, List.set_cons_succ]
                          refine wpAnyH_call 11 9 #[tbV t p, .int .i64 (L[j] : Nat), .int .i64 (L[k] : Nat)] (.bool (M.leB t L[j] L[k])) (by kernel_rfl) rfl (by kernel_rfl) (by kernel_rfl) (lawBelow_any t p L[j] L[k] _ HS.out HF.out hxl hyl (HT.out.below (below2 HB.out HQD.out))) ?_
                          intro wv hB
                          have hS := And.intro (And.intro (cell_below hS.1.1 hB) (cell_below hS.1.2 hB)) (hS.2.below hB)
                          have HLS := Lib.hid ((HLS.out.below (Below.refl _ _).drew).below hB)
                          have HQD := Lib.hid (below2 HQD.out hB)
                          clear hB
                          refine ⟨hS, ?_⟩
                          dsimp only [List.getElem_toArray, List.getElem_cons_zero, List.getElem_cons_succ, Act.put, List.setIfInBounds_toArray, List.set_cons_zero, List.set_cons_succ]
                          refine wpAnyH_take (i := 12) (v := .bool (M.leB t L[j] L[k])) rfl (by kernel_rfl) (by kernel_rfl) (by kernel_rfl) (fun _ _ _ h => h) (Or.inl ⟨by kernel_rfl, ?_⟩) hS ?_
                          · intro W' hSw
                            obtain ⟨⟨r1, r2⟩, ⟨s0, s1, s2, s3⟩⟩ := hSw
                            go_simp
                          dsimp only [List.getElem_toArray, List.getElem_cons_zero, List.getElem_cons_succ, Act.put, List.setIfInBounds_toArray, List.set_cons_zero, List.set_cons_succ]
                          refine wpAnyH_take (i := 13) (v := .bool (M.leB t L[j] L[k])) rfl (by kernel_rfl) (by kernel_rfl) (by kernel_rfl) (fun _ _ _ h => h) (Or.inl ⟨by kernel_rfl, ?_⟩) hS ?_
                          · intro W' hSw
                            obtain ⟨⟨r1, r2⟩, ⟨s0, s1, s2, s3⟩⟩ := hSw
                            go_simp
                          dsimp only [List.getElem_toArray, List.getElem_cons_zero, List.getElem_cons_succ, Act.put, List.setIfInBounds_toArray, List.set_cons_zero, List.set_cons_succ]
                          try simp only [List.setIfInBounds_toArray, List.set_cons_succ, List.set_cons_zero]
                          refine wpAnyH_done (by kernel_rfl) ?_ _
                          go_wp2_with fail
                          go_roundw
                          case rel => exact ⟨k + 1, by omega, by go_num, by rw [HTA.out], HLS, HQD⟩
                          case measure => simp [intOf]; omega
                      · obtain rfl : k = L.length := by omega
                        have q1 : decide ((L.length : Int) < (L.length : Int)) = false := decide_eq_false (by omega)
                        have HTA := Lib.hid (take_any (p := fun x => L.all (M.leB t x)) hjl)
                        rw [List.take_length]
                        cases so with
                        | false =>
                          have HTA := Lib.hid (show (L.take (j + 1)).any (fun x => L.all (M.leB t x)) = L.all (M.leB t L[j]) by rw [HTA.out, hso]; rfl)
                          go_wp2_with fail
                          go_roundw
                          case rel => exact ⟨j + 1, by omega, by go_num, by rw [HTA.out], HLS, HQ⟩
                          case measure => simp [intOf]; omega
                        | true =>
                          have HTA := Lib.hid (show (L.take (j + 1)).any (fun x => L.all (M.leB t x)) = true by rw [HTA.out, hso]; rfl)
                          go_wp2_with fail
                          go_roundw
                          case rel => exact ⟨j + 1, by omega, by go_num, by rw [HTA.out], HLS, HQ⟩
                          case measure => simp [intOf]; omega
                  · obtain rfl : j = L.length := by omega
                    have q1 : decide ((L.length : Int) < (L.length : Int)) = false := decide_eq_false (by omega)
                    rw [List.take_length, HJS.out]
                    have hbx1 := heap_below HZ.out HQ.out
                    have z0 : wp.cell? ⟨Bx, 0, none⟩ = some (.int .u8 (M.kindM t xa xb : Nat)) := by rw [Lib.cell_of_heap hbx1]; rfl
                    have z1 : wp.cell? ⟨Bx, 1, none⟩ = some (.int .i64 xa) := by rw [Lib.cell_of_heap hbx1]; rfl
                    have z2 : wp.cell? ⟨Bx, 2, none⟩ = some (.int .i64 xb) := by rw [Lib.cell_of_heap hbx1]; rfl
                    clear hbx1
                    by_cases hax : a = xa
                    · by_cases hbx' : b = xb
                      · have HE := Lib.hid (HKI2.out hax hbx')
                        have HNN := Lib.hid (show (M.jn t a b).isSome = false by rw [hax, hbx', HJN.out]; rfl)
                        rw [HNN.out]
                        have v1 : ((a : Int) == (xa : Int)) = true := by rw [hax]; simp
                        have v2 : decide ((a : Int) = (xa : Int)) = true := decide_eq_true (by omega)
                        have v3 : ((b : Int) == (xb : Int)) = true := by rw [hbx']; simp
                        have v4 : decide ((b : Int) = (xb : Int)) = true := decide_eq_true (by omega)
                        rcases H34.out with h3 | h4
                        · have hl0 : L.length = 0 := HE.out.1 h3
                          rw [h3] at z0
                          have u1 : ((L.length : Int) == 0) = true := by rw [hl0]; rfl
                          have u2 : decide ((L.length : Int) = 0) = true := decide_eq_true (by omega)
                          go_wp2_with fail
                          refine (awake_any _).mono ?_
                          rintro e w8 ⟨rfl, hB8⟩
                          have hB := below2 HBW.out (below2 (below2 HB.out HQ.out) hB8)
                          clear hB8
                          go_wp2_with fail
                          go_ret
                          exact ⟨rfl, hB⟩
                        · have hl0 : L.length ≠ 0 := fun h => by have := HE.out.2 h; omega
                          rw [h4] at z0
                          have u1 : ((L.length : Int) == 0) = false := by rw [beq_eq_false_iff_ne]; omega
                          have u2 : decide ((L.length : Int) = 0) = false := decide_eq_false (by omega)
                          go_wp2_with fail
                          refine (awake_any _).mono ?_
                          rintro e w8 ⟨rfl, hB8⟩
                          have hB := below2 HBW.out (below2 (below2 HB.out HQ.out) hB8)
                          clear hB8
                          go_wp2_with fail
                          go_ret
                          exact ⟨rfl, hB⟩
                      · have HNN := Lib.hid (show (M.jn t a b).isSome = true by rw [Option.isSome_iff_ne_none, hax]; exact HP2.out b (by omega) (by have := hbx hax; omega))
                        rw [HNN.out]
                        have u1 : ((b : Int) == (xb : Int)) = false := by rw [beq_eq_false_iff_ne]; omega
                        have u2 : decide ((b : Int) = (xb : Int)) = false := decide_eq_false (by omega)
                        have v1 : ((a : Int) == (xa : Int)) = true := by rw [hax]; simp
                        have v2 : decide ((a : Int) = (xa : Int)) = true := decide_eq_true (by omega)
                        go_wp2_with fail
                        go_roundw
                        case rel => exact ⟨b + 1, by omega, by omega, fun h => by have := hbx h; omega, by go_num, HQ⟩
                        case measure => simp [intOf]; omega
                    · have HNN := Lib.hid (show (M.jn t a b).isSome = true by rw [Option.isSome_iff_ne_none]; exact HP1.out a (by omega) b hab' hbl)
                      rw [HNN.out]
                      have u1 : ((a : Int) == (xa : Int)) = false := by rw [beq_eq_false_iff_ne]; omega
                      have u2 : decide ((a : Int) = (xa : Int)) = false := decide_eq_false (by omega)
                      go_wp2_with fail
                      go_roundw
                      case rel => exact ⟨b + 1, by omega, by omega, fun h => absurd h hax, by go_num, HQ⟩
                      case measure => simp [intOf]; omega
          · obtain rfl : b = t.elems.length := by omega
            have q1 : decide ((t.elems.length : Int) < (t.elems.length : Int)) = false := decide_eq_false (by omega)
            have hne : a ≠ xa := fun h => by have := hbx h; omega
            go_wp2_with fail
            go_roundw
            case rel => exact ⟨a + 1, by omega, by go_num, HQ⟩
            case measure => simp [intOf]; omega
end Go.Proofs.Ytmgbdeomloklnaa
