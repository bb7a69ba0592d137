/- Texts of one's own, joined: OrdAl. -/
import Derived.Test.YtnhnjfoboepffaaGr38
namespace Go.Proofs.Ytnhnjfoboepffaa
open Go.RowKit

namespace M
def blwL (t : Tb) (a : Nat) (l : List Int) : Nat := l.foldl (fun (m : Nat) (x : Int) => if leB t x.toNat a then m ||| 2 ^ x.toNat else m) 0
theorem blwL_snoc (t : Tb) (a : Nat) (l : List Int) (x : Int) : blwL t a (l ++ [x]) = if leB t x.toNat a then blwL t a l ||| 2 ^ x.toNat else blwL t a l := by unfold blwL; rw [List.foldl_append]; rfl
theorem blwL_bit (t : Tb) (a : Nat) (l : List Int) (hl : ∀ x, x ∈ l → 0 ≤ x) (j : Nat) : (blwL t a l).testBit j = true ↔ ((j : Int) ∈ l ∧ leB t j a = true) := by
  suffices ∀ m, (l.foldl (fun (m : Nat) (x : Int) => if leB t x.toNat a then m ||| 2 ^ x.toNat else m) m).testBit j = true ↔ (m.testBit j = true ∨ ((j : Int) ∈ l ∧ leB t j a = true)) by
    have := this 0
    simpa [blwL] using this
  induction l with
  | nil => intro m; simp
  | cons x l ih =>
    intro m
    obtain ⟨b, rfl⟩ : ∃ b : Nat, x = b := ⟨x.toNat, by have := hl x List.mem_cons_self; omega⟩
    rw [List.foldl_cons, ih (fun y hy => hl y (List.mem_cons_of_mem _ hy)), Int.toNat_natCast, List.mem_cons]
    by_cases hb : leB t b a = true
    · rw [if_pos hb, Nat.testBit_or, Bool.or_eq_true, Nat.testBit_two_pow, decide_eq_true_eq]
      constructor
      · rintro ((q | q) | ⟨q1, q2⟩)
        · exact Or.inl q
        · subst q; exact Or.inr ⟨Or.inl rfl, hb⟩
        · exact Or.inr ⟨Or.inr q1, q2⟩
      · rintro (q | ⟨q | q1, q2⟩)
        · exact Or.inl (Or.inl q)
        · exact Or.inl (Or.inr (by omega))
        · exact Or.inr ⟨q1, q2⟩
    · rw [if_neg hb]
      constructor
      · rintro (q | ⟨q1, q2⟩)
        · exact Or.inl q
        · exact Or.inr ⟨Or.inr q1, q2⟩
      · rintro (q | ⟨q | q1, q2⟩)
        · exact Or.inl q
        · have : j = b := by omega
          subst this; exact absurd q2 hb
        · exact Or.inr ⟨q1, q2⟩
theorem blwL_lt (t : Tb) (a : Nat) (l : List Int) (hl : ∀ x, x ∈ l → 0 ≤ x ∧ x < 12) : blwL t a l < 4096 := by
  suffices ∀ m, m < 4096 → l.foldl (fun (m : Nat) (x : Int) => if leB t x.toNat a then m ||| 2 ^ x.toNat else m) m < 4096 from this 0 (by omega)
  induction l with
  | nil => intro m h; exact h
  | cons x l ih =>
    intro m h
    refine ih (fun y hy => hl y (List.mem_cons_of_mem _ hy)) _ ?_
    have := hl x List.mem_cons_self
    show (if leB t x.toNat a = true then m ||| 2 ^ x.toNat else m) < 4096
    split
    · exact Nat.or_lt_two_pow (n := 12) h (Nat.pow_lt_pow_right (a := 2) (by omega) (by omega))
    · exact h
/-- The primes below an element. -/
def blw (t : Tb) (a : Nat) : Nat := blwL t a (listN (prm t) 12)
def prtL (t : Tb) (b : Nat) (l : List Int) : Nat := l.foldl (fun (m : Nat) (x : Int) => if (know t x.toNat &&& b) ≠ 2 ^ x.toNat then cut m (2 ^ x.toNat) else m) b
theorem prtL_snoc (t : Tb) (b : Nat) (l : List Int) (x : Int) : prtL t b (l ++ [x]) = if (know t x.toNat &&& b) ≠ 2 ^ x.toNat then cut (prtL t b l) (2 ^ x.toNat) else prtL t b l := by unfold prtL; rw [List.foldl_append]; rfl
theorem prtL_lt (t : Tb) (b : Nat) (hb : b < 4096) (l : List Int) : prtL t b l < 4096 := by
  unfold prtL
  suffices ∀ m, m < 4096 → l.foldl (fun (m : Nat) (x : Int) => if (know t x.toNat &&& b) ≠ 2 ^ x.toNat then cut m (2 ^ x.toNat) else m) m < 4096 from this b hb
  induction l with
  | nil => intro m h; exact h
  | cons x l ih =>
    intro m h
    refine ih _ ?_
    show (if (know t x.toNat &&& b) ≠ 2 ^ x.toNat then cut m (2 ^ x.toNat) else m) < 4096
    split
    · exact cut_lt _ _ h
    · exact h
theorem prtL_bit (t : Tb) (b : Nat) (hb : b < 4096) (l : List Int) (hl : ∀ x, x ∈ l → 0 ≤ x ∧ x < 12) (j : Nat) : (prtL t b l).testBit j = true ↔ (b.testBit j = true ∧ ((j : Int) ∈ l → (know t j &&& b) = 2 ^ j)) := by
  unfold prtL
  suffices ∀ m, m < 4096 → ((l.foldl (fun (m : Nat) (x : Int) => if (know t x.toNat &&& b) ≠ 2 ^ x.toNat then cut m (2 ^ x.toNat) else m) m).testBit j = true ↔ (m.testBit j = true ∧ ((j : Int) ∈ l → (know t j &&& b) = 2 ^ j))) from this b hb
  induction l with
  | nil => intro m _; simp
  | cons x l ih =>
    intro m hm
    have hx := hl x List.mem_cons_self
    obtain ⟨c, rfl⟩ : ∃ c : Nat, x = c := ⟨x.toNat, by omega⟩
    have h2 : 2 ^ c < 65536 := Nat.pow_lt_pow_right (a := 2) (n := 16) (by omega) (by omega)
    rw [List.foldl_cons, Int.toNat_natCast]
    by_cases hc : (know t c &&& b) ≠ 2 ^ c
    · rw [if_pos hc, ih (fun y hy => hl y (List.mem_cons_of_mem _ hy)) _ (cut_lt _ _ hm), cut_bit _ _ _ (Nat.lt_trans hm (by omega)) h2, Bool.and_eq_true, Bool.not_eq_true', Nat.testBit_two_pow, decide_eq_false_iff_not, List.mem_cons]
      constructor
      · rintro ⟨⟨h1, h3⟩, h4⟩
        refine ⟨h1, fun q => ?_⟩
        rcases q with q | q
        · exact absurd (show c = j by omega) h3
        · exact h4 q
      · rintro ⟨h1, h4⟩
        refine ⟨⟨h1, fun e => ?_⟩, fun q => h4 (Or.inr q)⟩
        subst e
        exact hc (h4 (Or.inl rfl))
    · rw [if_neg hc, ih (fun y hy => hl y (List.mem_cons_of_mem _ hy)) _ hm, List.mem_cons]
      constructor
      · rintro ⟨h1, h4⟩
        refine ⟨h1, fun q => ?_⟩
        rcases q with q | q
        · have : j = c := by omega
          subst this; exact Classical.not_not.1 hc
        · exact h4 q
      · rintro ⟨h1, h4⟩; exact ⟨h1, fun q => h4 (Or.inr q)⟩
/-- The parts of an element. -/
def prt (t : Tb) (a : Nat) : Nat := prtL t (blw t a) (listN (blw t a) 12)
theorem blw_lt (t : Tb) (a : Nat) : blw t a < 4096 := blwL_lt t a _ (listN_in _)
theorem listN_nat (m j : Nat) : (j : Int) ∈ listN m 12 ↔ j < 12 ∧ m.testBit j = true := by
  rw [listN_mem]
  constructor
  · rintro ⟨i, e, h1, h2⟩
    have : j = i := by omega
    subst this; exact ⟨h1, h2⟩
  · rintro ⟨h1, h2⟩; exact ⟨j, rfl, h1, h2⟩
theorem bit_lt {m j : Nat} (hm : m < 4096) (h : m.testBit j = true) : j < 12 := by
  rcases Nat.lt_or_ge j 12 with q | q
  · exact q
  · rw [Nat.testBit_lt_two_pow (Nat.lt_of_lt_of_le hm (show 2 ^ 12 ≤ 2 ^ j from Nat.pow_le_pow_right (by omega) q))] at h; cases h
theorem prm_lt {t : Tb} (hf : form t) : prm t < 4096 := prmM_lt hf _
theorem blw_bit {t : Tb} (hf : form t) (a j : Nat) : (blw t a).testBit j = true ↔ ((prm t).testBit j = true ∧ leB t j a = true) := by
  unfold blw
  rw [blwL_bit t a _ (fun x hx => (listN_in _ x hx).1), listN_nat]
  constructor
  · rintro ⟨⟨_, h1⟩, h2⟩; exact ⟨h1, h2⟩
  · rintro ⟨h1, h2⟩; exact ⟨⟨bit_lt (prm_lt hf) h1, h1⟩, h2⟩
theorem prt_bit (t : Tb) (a j : Nat) : (prt t a).testBit j = true ↔ ((blw t a).testBit j = true ∧ (know t j &&& blw t a) = 2 ^ j) := by
  unfold prt
  rw [prtL_bit t _ (blw_lt t a) _ (listN_in _), listN_nat]
  constructor
  · rintro ⟨h1, h2⟩; exact ⟨h1, h2 ⟨bit_lt (blw_lt t a) h1, h1⟩⟩
  · rintro ⟨h1, h2⟩; exact ⟨h1, fun _ => h2⟩
theorem prt_lt (t : Tb) (a : Nat) : prt t a < 4096 := prtL_lt t _ (blw_lt t a) _
end M

set_option maxHeartbeats 8000000 in
set_option maxRecDepth 100000 in
theorem parts_any (t : M.Tb) (p : Tp) (a : Nat) (w : World) (hf : M.form t) (ha : a < t.elems.length) :
    Calls Try.prog 46 #[knV t p (M.know t), .int .i64 a] w fun e w' => e = .returned (.int .u16 (M.prt t a : Nat)) ∧ Below w.heap.size w w' := by
  obtain ⟨ik, hik, hks⟩ := Option.map_eq_some_iff.1 knInfo
  have HIK := Lib.hid hik
  have HKS := Lib.hid hks
  have h12 := hf.twelve
  have HKN := Lib.hid (box_new w (knA t p (M.know t)) 62)
  have HK := Lib.hid (knBox HKN.out)
  have HP := Lib.hid (primes_any t p (w.alloc (.cells (knA t p (M.know t)) 62)) hf)
  have HKL := Lib.hid (M.know_lt hf)
  have HPL := Lib.hid (M.prm_lt hf)
  have ha12 : a < 16 := by omega
  clear hf hik hks
  go_enter Try.func46, Try.ntmps46
  go_wp2_with (refine wpList_load_row _ rfl 62 _ rfl ik HIK.out (knAgg _) w.heap.size (knA t p (M.know t)) 62 rfl HKN.out HKS.out ?_)
  refine HP.out.mono ?_
  rintro e w0 ⟨rfl, hB0⟩
  go_wp2_with fail
  refine (list_any (M.prm t) _ (Nat.lt_trans HPL.out (by omega))).mono ?_
  rintro e w1 ⟨la, lc, rfl, _, _, hl, hB1⟩
  have HL := Lib.hid hl
  have HB1 := Lib.hid (below2 hB0 hB1)
  have HLI := Lib.hid (M.listN_in (M.prm t))
  have HLE := Lib.hid (M.listN_le (M.prm t) 12)
  have HRES := Lib.hid (show M.blw t a = M.blwL t a (M.listN (M.prm t) 12) from rfl)
  obtain ⟨L, hL⟩ : ∃ L, M.listN (M.prm t) 12 = L := ⟨_, rfl⟩
  rw [hL] at HL HLI HLE HRES ⊢
  clear hl hB0 hB1 hL
  go_wp2_with fail
  go_loopw [5, 15] (fun u i wr => ∃ k : Nat, k ≤ L.length ∧ i = .int .i64 k ∧ u = .int .u16 (M.blwL t a (L.take k) : Nat) ∧ Below w1.heap.size w1 wr) (fun _ i _ => L.length - (intOf i).toNat)
  case atStart => exact ⟨0, by omega, rfl, rfl, Below.refl _ _⟩
  case round =>
    rename_i wr
    obtain ⟨k, hk, rfl, rfl, hB⟩ := hrel
    have hle := HLE.out
    by_cases hkl : k < L.length
    · obtain ⟨lb, lo, rfl, hlat⟩ := (HL.out.below hB).at hkl
      have hx := HLI.out L[k] (List.getElem_mem hkl)
      have r0 := hlat.at_ k hkl
      have hsn := M.blwL_snoc t a (L.take k) L[k]
      rw [← List.take_succ_eq_append_getElem hkl] at hsn
      have hlt := M.blwL_lt t a (L.take k) (fun x hx => HLI.out x (List.mem_of_mem_take hx))
      obtain ⟨m, hm⟩ : ∃ m, M.blwL t a (L.take k) = m := ⟨_, rfl⟩
      obtain ⟨x, hxe⟩ : ∃ x : Nat, L[k] = (x : Int) := ⟨(L[k]).toNat, by omega⟩
      rw [hxe] at hx r0 hsn
      rw [Int.toNat_natCast, hm] at hsn
      rw [hm] at hlt ⊢
      have n1 : (k : Int) < (L.length : Int) := by omega
      have n2 : (0 : Int) ≤ (k : Int) := by omega
      have n3 : (x : Int) < 12 := by omega
      have n4 : (0 : Int) ≤ (x : Int) := by omega
      have hx12 : x < 12 := by omega
      have y0 := (HK.out.below (below2 HB1.out hB)).m x hx12
      have hzz : w.heap.size < wr.heap.size := World.block_lt_of_cell? _ _ y0
      have HH := Lib.hid fun W => has_any (M.know t x) a W (Nat.lt_trans (HKL.out x) (by omega)) ha12
      have HSN := Lib.hid hsn
      have hlz := hlat.lt
      clear hsn hx hlat hxe hm
      cases hb : M.leB t x a with
      | false =>
        have HN := Lib.hid (show M.blwL t a (L.take (k + 1)) = m from by rw [HSN.out, hb]; rfl)
        have HB0 := Lib.hid (show (M.know t x).testBit a = false from hb)
        clear hb
        go_wp2_with fail
        refine (HH.out _).mono ?_
        rintro e w3 ⟨rfl, rfl⟩
        rw [HB0.out]
        go_wp2_with fail
        go_roundw
        case rel => exact ⟨k + 1, by omega, by go_num, by rw [HN.out], hB⟩
        case measure => simp [intOf]; omega
      | true =>
        have hn : M.blwL t a (L.take (k + 1)) = m ||| 2 ^ x := by rw [HSN.out, hb]; rfl
        have HB0 := Lib.hid (show (M.know t x).testBit a = true from hb)
        have h2 : 2 ^ x < 65536 := Nat.pow_lt_pow_right (a := 2) (n := 16) (by omega) (by omega)
        have hof := fun W => of_new x W hx12
        obtain ⟨z, hz⟩ : ∃ z, 2 ^ x = z := ⟨_, rfl⟩
        rw [hz] at h2 hn hof
        have HOF := Lib.hid hof
        have HE := Lib.hid (show bits .or .u16 (m : Int) (z : Int) = ((M.blwL t a (L.take (k + 1)) : Nat) : Int) from by rw [hn]; exact u16_or_nat _ _ (Nat.lt_trans hlt (by omega)) h2)
        clear hb hn hof hz
        go_wp2_with fail
        refine (HH.out _).mono ?_
        rintro e w3 ⟨rfl, rfl⟩
        rw [HB0.out]
        go_wp2_with fail
        refine (HOF.out _).mono ?_
        rintro e w3 ⟨rfl, rfl⟩
        go_wp2_with fail
        rw [HE.out]
        go_roundw
        case rel => exact ⟨k + 1, by omega, by go_num, rfl, belowA hB _⟩
        case measure => simp [intOf]; omega
    · obtain rfl : k = L.length := by omega
      have m1 : decide ((L.length : Int) < (L.length : Int)) = false := decide_eq_false (by omega)
      rw [List.take_length, ← HRES.out]
      have hbl := M.blw_lt t a
      have HLB := Lib.hid (list_any (M.blw t a) wr (Nat.lt_trans hbl (by omega)))
      have HRES2 := Lib.hid (show M.prt t a = M.prtL t (M.blw t a) (M.listN (M.blw t a) 12) from rfl)
      have HLI2 := Lib.hid (M.listN_in (M.blw t a))
      have HLE2 := Lib.hid (M.listN_le (M.blw t a) 12)
      obtain ⟨b, hb⟩ : ∃ b, M.blw t a = b := ⟨_, rfl⟩
      rw [hb] at hbl HLB HRES2 HLI2 HLE2 ⊢
      clear hb HRES HLI HLE
      go_wp2_with fail
      refine HLB.out.mono ?_
      rintro e w2 ⟨l2, c2, rfl, _, _, hl2, hB2⟩
      have HL2 := Lib.hid hl2
      have HB2 := Lib.hid (below2 (below2 HB1.out hB) hB2)
      obtain ⟨L2, hL2⟩ : ∃ L2, M.listN b 12 = L2 := ⟨_, rfl⟩
      rw [hL2] at HL2 HLI2 HLE2 HRES2 ⊢
      clear hl2 hB2 hB hL2 HL
      go_wp2_with fail
      go_loopw [8, 35] (fun u i wr => ∃ k : Nat, k ≤ L2.length ∧ i = .int .i64 k ∧ u = .int .u16 (M.prtL t b (L2.take k) : Nat) ∧ Below w2.heap.size w2 wr) (fun _ i _ => L2.length - (intOf i).toNat)
      case atStart => exact ⟨0, by omega, rfl, rfl, Below.refl _ _⟩
      case round =>
        rename World => wr
        obtain ⟨k, hk, rfl, rfl, hB⟩ := hrel
        have hle := HLE2.out
        by_cases hkl : k < L2.length
        · obtain ⟨lb, lo, rfl, hlat⟩ := (HL2.out.below hB).at hkl
          have hx := HLI2.out L2[k] (List.getElem_mem hkl)
          have r0 := hlat.at_ k hkl
          have hsn := M.prtL_snoc t b (L2.take k) L2[k]
          rw [← List.take_succ_eq_append_getElem hkl] at hsn
          have hlt := M.prtL_lt t b hbl (L2.take k)
          obtain ⟨m, hm⟩ : ∃ m, M.prtL t b (L2.take k) = m := ⟨_, rfl⟩
          obtain ⟨x, hxe⟩ : ∃ x : Nat, L2[k] = (x : Int) := ⟨(L2[k]).toNat, by omega⟩
          rw [hxe] at hx r0 hsn
          rw [Int.toNat_natCast, hm] at hsn
          rw [hm] at hlt ⊢
          have n1 : (k : Int) < (L2.length : Int) := by omega
          have n2 : (0 : Int) ≤ (k : Int) := by omega
          have n3 : (x : Int) < 12 := by omega
          have n4 : (0 : Int) ≤ (x : Int) := by omega
          have hx12 : x < 12 := by omega
          have hBw := below2 HB2.out hB
          have y0 := (HK.out.below hBw).m x hx12
          have hzz : w.heap.size < wr.heap.size := World.block_lt_of_cell? _ _ y0
          have h2 : 2 ^ x < 65536 := Nat.pow_lt_pow_right (a := 2) (n := 16) (by omega) (by omega)
          have hof := fun W => of_new x W hx12
          obtain ⟨z, hz⟩ : ∃ z, 2 ^ x = z := ⟨_, rfl⟩
          rw [hz] at h2 hof hsn
          have HOF := Lib.hid hof
          have hand : bits .and .u16 (M.know t x : Nat) (b : Nat) = ((M.know t x &&& b : Nat) : Int) := u16_and_nat _ _ (Nat.lt_trans (HKL.out x) (by omega)) (Nat.lt_trans hbl (by omega))
          obtain ⟨v, hv⟩ : ∃ v, (M.know t x &&& b) = v := ⟨_, rfl⟩
          rw [hv] at hand hsn
          have HSN := Lib.hid hsn
          have hlz := hlat.lt
          clear hsn hx hlat hxe hm hof hz hv
          by_cases hq : v = z
          · have k1 : ((v : Int) == (z : Int)) = true := by rw [hq]; exact beq_self_eq_true _
            have k2 : ((v : Int) != (z : Int)) = false := by rw [hq]; exact bne_self_eq_false _
            have HN := Lib.hid (show M.prtL t b (L2.take (k + 1)) = m from by rw [HSN.out, if_neg (fun q => q hq)])
            clear hq
            go_upto_region 12 with fail
            go_cut [35, 48] from 35 to 54 (fun i c wx => i = .int .i64 k ∧ c = .bool false ∧ Below w2.heap.size w2 wx)
            case first =>
              go_region_with (go_at_call 54; refine (HOF.out wr.drew).mono ?_; rintro e w4 ⟨rfl, rfl⟩)
              all_goals
                go_wp2_with fail
                go_meet
                exact ⟨rfl, rfl, belowA hB.drew _⟩
            case rest =>
              obtain ⟨rfl, rfl, hB3⟩ := hcut
              go_wp2_with fail
              go_roundw
              case rel => exact ⟨k + 1, by omega, by go_num, by rw [HN.out], hB3⟩
              case measure => simp [intOf]; omega
          · have k1 : ((v : Int) == (z : Int)) = false := by rw [beq_eq_false_iff_ne]; omega
            have k2 : ((v : Int) != (z : Int)) = true := by rw [bne_iff_ne]; omega
            have hn : M.prtL t b (L2.take (k + 1)) = M.cut m z := by rw [HSN.out, if_pos hq]
            have HE := Lib.hid (show bits .andNot .u16 (m : Int) (z : Int) = ((M.prtL t b (L2.take (k + 1)) : Nat) : Int) from by rw [hn]; exact u16_andNot_nat _ _ (Nat.lt_trans hlt (by omega)) h2)
            clear hq hn
            go_upto_region 12 with fail
            go_cut [35, 48] from 35 to 54 (fun i c wx => i = .int .i64 k ∧ c = .bool true ∧ Below w2.heap.size w2 wx)
            case first =>
              go_region_with (go_at_call 54; refine (HOF.out wr.drew).mono ?_; rintro e w4 ⟨rfl, rfl⟩)
              all_goals
                go_wp2_with fail
                go_meet
                exact ⟨rfl, rfl, belowA hB.drew _⟩
            case rest =>
              obtain ⟨rfl, rfl, hB3⟩ := hcut
              go_wp2_with fail
              refine (HOF.out _).mono ?_
              rintro e w3 ⟨rfl, rfl⟩
              go_wp2_with fail
              rw [HE.out]
              go_roundw
              case rel => exact ⟨k + 1, by omega, by go_num, rfl, belowA hB3 _⟩
              case measure => simp [intOf]; omega
        · obtain rfl : k = L2.length := by omega
          have m1 : decide ((L2.length : Int) < (L2.length : Int)) = false := decide_eq_false (by omega)
          have hBf := below2 (below2 (below1 w (.cells (knA t p (M.know t)) 62)) HB2.out) hB
          rw [List.take_length]
          go_wp2_with fail
          go_ret
          exact ⟨by rw [HRES2.out]; rfl, hBf⟩
end Go.Proofs.Ytnhnjfoboepffaa
