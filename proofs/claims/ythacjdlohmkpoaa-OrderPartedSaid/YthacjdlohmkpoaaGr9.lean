/- Texts of one's own, joined: OrdO, OrdP, OrdQ. -/
import Derived.Test.YthacjdlohmkpoaaGr8
namespace Go.Proofs.Ythacjdlohmkpoaa
open Go.RowKit

/-- What Below comes to. -/
def BelowPost (t : M.Tb) (a b : Int) (w : World) (e : Ending) (w' : World) : Prop :=
  ((¬ M.form t ∧ e = .returned (.tuple #[.bool false, .int .i64 4])) ∨ (M.form t ∧ (M.inB t.elems.length a && M.inB t.elems.length b) = false ∧ e = .returned (.tuple #[.bool false, .int .i64 7])) ∨
    (M.form t ∧ (M.inB t.elems.length a && M.inB t.elems.length b) = true ∧ e = .returned (.tuple #[.bool ((M.know t a.toNat).testBit b.toNat), .int .i64 0]))) ∧ Below w.heap.size w w'
theorem bel_1 {t : M.Tb} {a b : Int} {w w' : World} (h : ¬ M.form t) (hB : Below w.heap.size w w') : BelowPost t a b w (.returned (.tuple #[.bool false, .int .i64 4])) w' := ⟨Or.inl ⟨h, rfl⟩, hB⟩
theorem bel_2 {t : M.Tb} {a b : Int} {w w' : World} (h : M.form t) (ha : (M.inB t.elems.length a && M.inB t.elems.length b) = false) (hB : Below w.heap.size w w') : BelowPost t a b w (.returned (.tuple #[.bool false, .int .i64 7])) w' := ⟨Or.inr (Or.inl ⟨h, ha, rfl⟩), hB⟩
theorem bel_3 {t : M.Tb} {a b : Int} {w w' : World} (h : M.form t) (ha : (M.inB t.elems.length a && M.inB t.elems.length b) = true) (hB : Below w.heap.size w w') : BelowPost t a b w (.returned (.tuple #[.bool ((M.know t a.toNat).testBit b.toNat), .int .i64 0])) w' := ⟨Or.inr (Or.inr ⟨h, ha, rfl⟩), hB⟩

set_option maxHeartbeats 8000000 in
set_option maxRecDepth 100000 in
theorem below_any (t : M.Tb) (p : Tp) (a b : Int) (w : World) (hal : ∀ l, l ∈ t.above → l.length ≤ 1000000) (ht : TbIn w t p) : Calls Try.prog 44 #[tbV t p, .int .i64 a, .int .i64 b] w (BelowPost t a b w) := by
  have HC := Lib.hid (formed_any t p (w.alloc (.cells (tbA t p) 26)) hal (ht.below (below1 _ _)))
  obtain ⟨c0, c1, c2, c3⟩ := tbBox (t := t) (p := p) (box_new w (tbA t p) 26)
  clear ht
  go_enter Try.func44, Try.ntmps44
  go_wp2_with fail
  refine HC.out.mono ?_
  rintro e w1 ⟨⟨hf, rfl⟩ | ⟨hf, rfl⟩, hB1⟩
  · have HF := Lib.hid hf
    have hB := below2 (below1 w (.cells (tbA t p) 26)) hB1
    clear hf hB1 c0 c1 c2 c3
    have HK := Lib.hid (knBox (t := t) (p := p) (r := M.know t) (box_new w1 (knA t p (M.know t)) 65))
    have hkl := M.know_lt HF.out
    have HKL := Lib.hid hkl
    have hn12 : t.elems.length ≤ 12 := HF.out.twelve
    clear hkl
    go_wp2_with fail
    refine (hasAll_any t p (M.know t) (some ⟨w1.heap.size + 1, 0, none⟩) 2 [a, b] _ (by show 2 ≤ 1000000; omega) (Or.inr ⟨w1.heap.size + 1, 0, rfl, by simp, fun i hi => by
        rw [World.cell?_alloc_at _ _ _ _ (by simp)]
        have h2 : i < 2 := hi
        match i, h2 with
        | 0, _ => rfl
        | 1, _ => rfl⟩)).mono ?_
    rintro e w2 ⟨rfl, hB2⟩
    have hall : M.allN (fun i => M.inB t.elems.length ([a, b].getD i 0)) [a, b].length = (M.inB t.elems.length a && M.inB t.elems.length b) := by
      unfold M.allN; simp [List.range_succ]
    rw [hall]
    have HK2 := Lib.hid ((HK.out.below (below1 _ (.cells #[.int .i64 a, .int .i64 b] 3))).below hB2)
    have hBf := below2 (belowA (belowA hB _) _) hB2
    clear hall hB hB2
    cases hin : (M.inB t.elems.length a && M.inB t.elems.length b) with
    | false =>
      have HIN := Lib.hid hin
      clear hin
      go_wp2_with fail
      go_ret2
      exact bel_2 HF.out HIN.out hBf
    | true =>
      have HIN := Lib.hid hin
      unfold M.inB at hin
      simp only [Bool.and_eq_true, decide_eq_true_eq] at hin
      obtain ⟨k, rfl⟩ : ∃ k : Nat, a = k := ⟨a.toNat, by omega⟩
      obtain ⟨j, rfl⟩ : ∃ j : Nat, b = j := ⟨b.toNat, by omega⟩
      have hk12 : k < 12 := by omega
      have n1 : (k : Int) < 12 := by omega
      have n2 : (0 : Int) ≤ (k : Int) := by omega
      have hm := HK2.out.m k hk12
      have hj16 : j < 16 := by omega
      clear hin
      go_wp2_with fail
      refine (has_any (M.know t k) j _ (Nat.lt_trans (HKL.out k) (by omega)) hj16).mono ?_
      rintro e w3 ⟨rfl, rfl⟩
      go_wp2_with fail
      go_ret2
      exact bel_3 HF.out HIN.out hBf
  · have HF := Lib.hid hf
    have hB := below2 (below1 w (.cells (tbA t p) 26)) hB1
    clear hf hB1 c0 c1 c2 c3
    go_wp2_with fail
    go_ret2
    exact bel_1 HF.out (belowA hB _)
end Go.Proofs.Ythacjdlohmkpoaa

namespace Go.Proofs.Ythacjdlohmkpoaa
open Go.RowKit

set_option maxHeartbeats 2000000 in
set_option maxRecDepth 100000 in
theorem comesBack1_any (t : M.Tb) (p : Tp) (r : Nat → Nat) (B C : Nat) (x a : Nat) (w : World) (hk : KnBox w B t p r) (hr : ∀ i, r i < 4096) (hx : x < 12) (ha : a < 16) (hc : w.cell? ⟨C, 0, none⟩ = some (.int .i64 a)) :
    Calls Try.prog 95 #[.int .i64 x, .pointer (some ⟨B, 0, none⟩), .pointer (some ⟨C, 0, none⟩)] w fun e w' => e = .returned (.bool (!(r x).testBit a)) ∧ Below w.heap.size w w' := by
  have hm := hk.m x hx
  have HC := Lib.hid fun W => has_any (r x) a W (Nat.lt_trans (hr x) (by omega)) ha
  have n1 : (x : Int) < 12 := by omega
  have n2 : (0 : Int) ≤ (x : Int) := by omega
  have hB : Below w.heap.size w w := Below.refl _ _
  clear hk hr
  go_enter Try.func95, Try.ntmps95
  go_wp2_with fail
  go_quiet ((go_at_call 67; exact Calls.quiet_of ((HC.out _).mono fun e w' ⟨he, hw⟩ => ⟨he, 0, hw.symm⟩)))
  go_wp2_with fail
  go_ret
  exact ⟨rfl, belowN hB _⟩

theorem enters_comesBack1 : ∀ args w, (callFunc 95 args).run Try.prog w = .ok (.enter 95 args) w := enters_of Try.func95 (by kernel_rfl) rfl

set_option maxHeartbeats 4000000 in
set_option maxRecDepth 100000 in
theorem comesBack_any (t : M.Tb) (p : Tp) (a : Nat) (w : World) (ht : TbIn w t p) (hf : M.form t) (ha : a < t.elems.length) (hlen : (t.above.getD a []).length ≤ 1000000) :
    Calls Try.prog 72 #[knV t p (M.know t), .int .i64 a] w fun e w' => e = .returned (.bool (!M.allN (fun i => !(M.know t ((t.above.getD a []).getD i 0).toNat).testBit a) (t.above.getD a []).length)) ∧ Below w.heap.size w w' := by
  obtain ⟨pea, pec, paa, pac, pwa, pwc⟩ := p
  have ha' : a < t.above.length := by rw [hf.above]; exact ha
  have h12 := hf.twelve
  have hBB : Below w.heap.size w ((w.alloc (.cells (knA t ⟨pea, pec, paa, pac, pwa, pwc⟩ (M.know t)) 65)).alloc (.cells #[.int .i64 a] 3)) := belowA (below1 _ _) _
  have hk := (knBox (t := t) (p := ⟨pea, pec, paa, pac, pwa, pwc⟩) (r := M.know t) (box_new w (knA t ⟨pea, pec, paa, pac, pwa, pwc⟩ (M.know t)) 65)).below (below1 _ (.cells #[.int .i64 a] 3))
  have hcc : ((w.alloc (.cells (knA t ⟨pea, pec, paa, pac, pwa, pwc⟩ (M.know t)) 65)).alloc (.cells #[.int .i64 a] 3)).cell? ⟨w.heap.size + 1, 0, none⟩ = some (.int .i64 a) := by
    rw [World.cell?_alloc_at _ _ _ _ (by simp)]; rfl
  rw [getD_in _ _ _ ha'] at hlen ⊢
  obtain ⟨b, off, ea, hat⟩ := (ht.below hBB).as_.at ha'
  obtain ⟨ra, rc, q, _, _, hrow⟩ := hat.at_ a ha'
  dsimp only at ea
  subst ea
  have hV := vec_of_cel (Value.int .i64) 0 hrow
  have hcall := every_int ra t.above[a].length rc 95 #[.pointer (some ⟨w.heap.size, 0, none⟩), .pointer (some ⟨w.heap.size + 1, 0, none⟩)] (fun i => .int .i64 (t.above[a].getD i 0)) (fun i => !(M.know t (t.above[a].getD i 0).toNat).testBit a) _ hlen hV enters_comesBack1 (fun i hi w1 hB1 => by
    have hx := M.asc_in (hf.rows a ha') h12 i hi
    rw [getD_in _ _ _ hi]
    obtain ⟨x, hxe⟩ : ∃ x : Nat, t.above[a][i] = (x : Int) := ⟨(t.above[a][i]).toNat, by omega⟩
    rw [hxe] at hx ⊢
    rw [Int.toNat_natCast]
    exact comesBack1_any t _ (M.know t) w.heap.size (w.heap.size + 1) x a w1 (hk.below hB1) (M.know_lt hf) (by omega) (by omega) (cell_below hcc hB1))
  have HC := Lib.hid hcall
  have HBB := Lib.hid hBB
  obtain ⟨k0, k1, k2, k3, _, _⟩ := hk
  obtain ⟨L, hL⟩ : ∃ L, t.above[a] = L := ⟨_, rfl⟩
  rw [hL] at q HC ⊢
  have n1 : (a : Int) < (t.above.length : Int) := by omega
  have n2 : (0 : Int) ≤ (a : Int) := by omega
  clear hcall hV hrow hat hBB ht hf hL hlen
  go_enter Try.func72, Try.ntmps72
  go_wp2_with fail
  refine HC.out.mono ?_
  rintro e w1 ⟨rfl, hB1⟩
  have hB := below2 HBB.out hB1
  go_wp2_with fail
  go_ret
  exact ⟨rfl, hB⟩
end Go.Proofs.Ythacjdlohmkpoaa

namespace Go.Proofs.Ythacjdlohmkpoaa
open Go.RowKit

namespace M
/-- The number of the first one of some numbers that is a number, or -1. -/
def idxM (v : Nat → Nat) (m : Nat) : Nat → Nat → Int
  | 0, _ => -1
  | f + 1, k => if v k = m then k else idxM v m f (k + 1)
theorem idxM_stop (v : Nat → Nat) (m : Nat) : ∀ f k j, k ≤ j → j < k + f → v j = m → (∀ i, k ≤ i → i < j → v i ≠ m) → idxM v m f k = j := by
  intro f
  induction f with
  | zero => intro k j h1 h2; omega
  | succ f ih =>
    intro k j h1 h2 h3 h4
    unfold idxM
    by_cases e : k = j
    · subst e; rw [if_pos h3]
    · rw [if_neg (h4 k (Nat.le_refl _) (by omega))]
      exact ih (k + 1) j (by omega) (by omega) h3 (fun i q1 q2 => h4 i (by omega) q2)
theorem idxM_all (v : Nat → Nat) (m : Nat) : ∀ f k, (∀ i, k ≤ i → i < k + f → v i ≠ m) → idxM v m f k = -1 := by
  intro f
  induction f with
  | zero => intro k _; rfl
  | succ f ih =>
    intro k h
    unfold idxM
    rw [if_neg (h k (Nat.le_refl _) (by omega))]
    exact ih (k + 1) (fun i q1 q2 => h i (by omega) (by omega))
end M

set_option maxHeartbeats 1000000 in
set_option maxRecDepth 100000 in
theorem index_some (b off n c m : Nat) (v : Nat → Nat) (w : World) (hn : n ≤ 1000000) (hs : ∀ i, i < n → w.cell? ⟨b, off + i, none⟩ = some (.int .u16 (v i : Nat))) :
    Calls Try.prog 74 #[.slice (some ⟨b, off, none⟩) n c, .int .u16 m] w fun e w' => e = .returned (.int .i64 (M.idxM v m n 0)) ∧ w = w' := by
  have HS := Lib.hid hs
  clear hs
  go_enter Try.func74, Try.ntmps74
  go_wp2_with fail
  go_loop [8] (fun i => ∃ k : Nat, k ≤ n ∧ i = .int .i64 k ∧ Hid (∀ j, j < k → v j ≠ m)) (fun i => n - (intOf i).toNat)
  case atStart => exact ⟨0, by omega, rfl, Lib.hid (fun j hj => by omega)⟩
  case round =>
    obtain ⟨k, hk, rfl, HA⟩ := hrel
    by_cases hkl : k < n
    · have c0 := HS.out k hkl
      have n1 : (k : Int) < (n : Int) := by omega
      have n2 : (0 : Int) ≤ (k : Int) := by omega
      by_cases hv : v k = m
      · have k1 : ((m : Int) == (v k : Nat)) = true := by rw [hv]; exact beq_self_eq_true _
        have HR := Lib.hid (M.idxM_stop v m n 0 k (Nat.zero_le _) (by omega) hv (fun i _ hi => HA.out i hi))
        clear hv
        go_wp2_with fail
        go_ret
        exact ⟨ret_int HR.out.symm, rfl⟩
      · have k1 : ((m : Int) == (v k : Nat)) = false := by rw [beq_eq_false_iff_ne]; omega
        have HN := Lib.hid (show ∀ j, j < k + 1 → v j ≠ m from fun j hj => by
          rcases Nat.lt_succ_iff_lt_or_eq.1 hj with h | rfl
          · exact HA.out j h
          · exact hv)
        clear hv
        go_wp2_with fail
        go_round
        case rel => exact ⟨k + 1, by omega, by go_num, HN⟩
        case measure => simp [intOf]; omega
    · obtain rfl : k = n := by omega
      have m1 : decide ((k : Int) < (k : Int)) = false := decide_eq_false (by omega)
      have HR := Lib.hid (M.idxM_all v m k 0 (fun i _ hi => HA.out i (by omega)))
      go_wp2_with fail
      go_ret
      exact ⟨ret_int HR.out.symm, rfl⟩

/-- The join of two elements, and the kind of the break that they are. -/
def M.joinM (r : Nat → Nat) (n a b : Nat) : Int × Nat :=
  if r a &&& r b = 0 then (0, 3) else if M.idxM r (r a &&& r b) n 0 < 0 then (0, 4) else (M.idxM r (r a &&& r b) n 0, 0)

set_option maxHeartbeats 4000000 in
set_option maxRecDepth 100000 in
theorem join_any (t : M.Tb) (p : Tp) (r : Nat → Nat) (a b : Nat) (w : World) (hr : ∀ i, r i < 4096) (hn : t.elems.length ≤ 12) (ha : a < 12) (hb : b < 12) :
    Calls Try.prog 52 #[knV t p r, .int .i64 a, .int .i64 b] w fun e w' => e = .returned (.tuple #[.int .i64 (M.joinM r t.elems.length a b).1, .int .u8 (M.joinM r t.elems.length a b).2]) ∧ Below w.heap.size w w' := by
  have hk := knBox (t := t) (p := p) (r := r) (box_new w (knA t p r) 65)
  have HK := Lib.hid hk
  have ma := hk.m a ha
  have mb := hk.m b hb
  have c1 := hk.c1
  have n1 : (a : Int) < 12 := by omega
  have n2 : (0 : Int) ≤ (a : Int) := by omega
  have n3 : (b : Int) < 12 := by omega
  have n4 : (0 : Int) ≤ (b : Int) := by omega
  have hand : bits .and .u16 (r a : Nat) (r b : Nat) = ((r a &&& r b : Nat) : Int) := u16_and_nat _ _ (Nat.lt_trans (hr a) (by omega)) (Nat.lt_trans (hr b) (by omega))
  have hB := below1 w (.cells (knA t p r) 65)
  clear hk hr
  by_cases h0 : r a &&& r b = 0
  · have k1 : (((r a &&& r b : Nat) : Int) == 0) = true := by rw [h0]; rfl
    have HR := Lib.hid (show M.joinM r t.elems.length a b = (0, 3) from by unfold M.joinM; rw [if_pos h0])
    clear h0
    go_enter Try.func52, Try.ntmps52
    go_wp2_with fail
    go_quiet (fail)
    go_wp2_with fail
    go_ret2
    exact ⟨by rw [HR.out]; rfl, belowN hB _⟩
  · have k1 : (((r a &&& r b : Nat) : Int) == 0) = false := by rw [beq_eq_false_iff_ne]; omega
    have hcall := fun q => index_some w.heap.size 4 t.elems.length 12 (r a &&& r b) r ((w.alloc (.cells (knA t p r) 65)).drewN q) (by omega) (fun i hi => (HK.out.m i (by omega)))
    have n5 : (t.elems.length : Int) ≤ 12 := by omega
    by_cases hj : M.idxM r (r a &&& r b) t.elems.length 0 < 0
    · have HR := Lib.hid (show M.joinM r t.elems.length a b = (0, 4) from by unfold M.joinM; rw [if_neg h0, if_pos hj])
      have k2 : decide (M.idxM r (r a &&& r b) t.elems.length 0 < 0) = true := decide_eq_true hj
      have HC := Lib.hid hcall
      clear h0 hj hcall
      go_enter Try.func52, Try.ntmps52
      go_wp2_with fail
      go_quiet (fail)
      go_wp2_with fail
      refine (HC.out _).mono ?_
      rintro e w1 ⟨rfl, rfl⟩
      go_wp2_with fail
      go_ret2
      exact ⟨by rw [HR.out]; rfl, belowN hB _⟩
    · have HR := Lib.hid (show M.joinM r t.elems.length a b = (M.idxM r (r a &&& r b) t.elems.length 0, 0) from by unfold M.joinM; rw [if_neg h0, if_neg hj])
      have k2 : decide (M.idxM r (r a &&& r b) t.elems.length 0 < 0) = false := decide_eq_false hj
      have HC := Lib.hid hcall
      clear h0 hj hcall
      go_enter Try.func52, Try.ntmps52
      go_wp2_with fail
      go_quiet (fail)
      go_wp2_with fail
      refine (HC.out _).mono ?_
      rintro e w1 ⟨rfl, rfl⟩
      go_wp2_with fail
      go_ret2
      exact ⟨by rw [HR.out]; rfl, belowN hB _⟩
end Go.Proofs.Ythacjdlohmkpoaa
