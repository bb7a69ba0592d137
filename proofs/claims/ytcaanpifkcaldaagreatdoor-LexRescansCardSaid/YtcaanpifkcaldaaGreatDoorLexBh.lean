/- DERIVED. Contracts of the document's own Gap and Scan; the walk of the statement on tokens. -/
import Derived.Test.YtcaanpifkcaldaaGreatDoorLexBf
import Derived.Test.YtcaanpifkcaldaaGreatDoorLexTe0
namespace Go.Proofs.YtcaanpifkcaldaaGreatDoor
open Go.RowKit Go.WideMaps Go.Maps Go.Shelf

/-- Inside a gap that began at a place. -/
def InGap (l : List UInt8) (k n : Nat) : Prop := ∀ j, (hj : k + j < (M.blank l).length) → j < n → [3].contains (M.cls (M.blank l)[k + j]) = true
theorem inGap_succ (l : List UInt8) (k n : Nat) (h : InGap l k n) (hk : k + n < l.length) (hg : l[k + n] = 10 ∨ l[k + n] = 32 ∨ l[k + n] = 37 ∨ M.stK l (k + n) = true) : InGap l k (n + 1) := by
  intro j hj hjn
  by_cases e : j = n
  · subst e
    have := M.gap_yes l (k + j) hk hg
    rw [this]; rfl
  · exact h j hj (by omega)

set_option maxHeartbeats 1000000 in
set_option maxRecDepth 100000 in
theorem gap_any (s : ByteArray) (k : Nat) (w : World) (hs : s.size ≤ maxLen) (hk : k ≤ s.size) (hst : M.stK s.data.toList k = false) :
    Calls Tryz.prog 31 #[.string s, .int .i64 k] w fun e w' => e = .returned (.int .i64 (M.behind [3] (M.blank s.data.toList) k)) ∧ w = w' := by
  unfold maxLen at hs
  have hz := M.size_list s
  have hbz := M.blank_len s.data.toList
  obtain ⟨l, hl⟩ : ∃ l, s.data.toList = l := ⟨_, rfl⟩
  have hat : ∀ i, (h : i < s.size) → (h2 : i < l.length) → s[i] = l[i] := by
    intro i h h2
    subst hl
    rfl
  rw [hl] at hst hz hbz ⊢
  have HST := Lib.hid hst
  have HZ := Lib.hid hz
  have HBZ := Lib.hid hbz
  have HAT := Lib.hid hat
  clear hst hz hbz hat hl
  go_enter Tryz.func31, Tryz.ntmps31
  go_wp2_with fail
  go_loop [1, 5] (fun i b => ∃ n : Nat, k + n ≤ s.size ∧ i = .int .i64 ((k + n : Nat) : Int) ∧ b = .bool (M.stK l (k + n)) ∧ InGap l k n) (fun i _ => s.size - (intOf i).toNat)
  case atStart => exact ⟨0, by omega, rfl, by rw [Nat.add_zero, HST.out], fun j _ hj => by omega⟩
  case round =>
    obtain ⟨n, hn, rfl, rfl, hb⟩ := hrel
    have HB := Lib.hid hb
    clear hb
    by_cases hlt : k + n < s.size
    · have hlt2 : k + n < l.length := by rw [HZ.out]; exact hlt
      have hat := HAT.out (k + n) hlt hlt2
      obtain ⟨c, hc⟩ : ∃ c, l[k + n] = c := ⟨_, rfl⟩
      have hsu := M.stK_succ l (k + n) hlt2
      rw [hc] at hsu hat
      obtain ⟨b, hb⟩ : ∃ b, M.stK l (k + n) = b := ⟨_, rfl⟩
      rw [hb] at hsu ⊢
      have hin := inGap_succ l k n HB.out hlt2
      rw [hc, hb] at hin
      have HIN := Lib.hid hin
      have HA := Lib.hid hat
      have HSU := Lib.hid hsu
      have HC := Lib.hid hc
      have HBB := Lib.hid hb
      clear hat hsu hin hc hb
      have hne : ∀ v : UInt8, c ≠ v → (((s[k + n]'hlt).toNat : Int) == (v.toNat : Int)) = false := fun v hv => by
        rw [HA.out, beq_eq_false_iff_ne]; exact fun q => hv (UInt8.toNat_inj.1 (by omega))
      have heq : ∀ v : UInt8, c = v → (((s[k + n]'hlt).toNat : Int) == (v.toNat : Int)) = true := fun v hv => by rw [HA.out, hv]; simp
      have HNE := Lib.hid hne
      have HEQ := Lib.hid heq
      clear hne heq
      by_cases h10 : c = 10
      · have e1 : (((s[k + n]'hlt).toNat : Int) == 10) = true := HEQ.out 10 h10
        have hi2 := HIN.out (Or.inl h10)
        have hs2 : M.stK l (k + (n + 1)) = false := by show M.stK l (k + n + 1) = false; rw [HSU.out, h10]; rfl
        have HI2 := Lib.hid hi2
        have HS2 := Lib.hid hs2
        clear h10 hi2 hs2
        go_wp2_with fail
        exact ⟨⟨n + 1, by omega, by simp; omega, by rw [HS2.out], HI2.out⟩, by simp [intOf]; omega⟩
      · have e10 : (((s[k + n]'hlt).toNat : Int) == 10) = false := HNE.out 10 h10
        have h10b : (c == 10) = false := by simpa using h10
        cases b
        · by_cases h32 : c = 32
          · have e32 : (((s[k + n]'hlt).toNat : Int) == 32) = true := HEQ.out 32 h32
            have hi2 := HIN.out (Or.inr (Or.inl h32))
            have hs2 : M.stK l (k + (n + 1)) = false := by show M.stK l (k + n + 1) = false; rw [HSU.out, h32]; rfl
            have HI2 := Lib.hid hi2
            have HS2 := Lib.hid hs2
            clear h10 h10b h32 hi2 hs2
            go_wp2_with fail
            exact ⟨⟨n + 1, by omega, by simp; omega, by rw [HS2.out], HI2.out⟩, by simp [intOf]; omega⟩
          · have e32 : (((s[k + n]'hlt).toNat : Int) == 32) = false := HNE.out 32 h32
            by_cases h37 : c = 37
            · have e37 : (((s[k + n]'hlt).toNat : Int) == 37) = true := HEQ.out 37 h37
              have hi2 := HIN.out (Or.inr (Or.inr (Or.inl h37)))
              have hs2 : M.stK l (k + (n + 1)) = true := by show M.stK l (k + n + 1) = true; rw [HSU.out, h37]; rfl
              have HI2 := Lib.hid hi2
              have HS2 := Lib.hid hs2
              clear h10 h10b h32 h37 hi2 hs2
              go_wp2_with fail
              exact ⟨⟨n + 1, by omega, by simp; omega, by rw [HS2.out], HI2.out⟩, by simp [intOf]; omega⟩
            · have e37 : (((s[k + n]'hlt).toNat : Int) == 37) = false := HNE.out 37 h37
              have hgo : M.behind [3] (M.blank l) k = k + n := by
                refine M.behind_stop [3] (M.blank l) k n (by rw [HBZ.out]; exact hlt2) HB.out ?_
                have := M.gap_no l (k + n) hlt2 (by rw [HC.out]; exact h10) (by rw [HC.out]; exact h32) (by rw [HC.out]; exact h37) HBB.out
                simpa using fun q => this q
              have HGO := Lib.hid hgo
              clear h10 h10b h32 h37 hgo
              go_wp2_with fail
              go_ret
              exact ⟨ret_int (by rw [HGO.out]; omega), rfl⟩
        · have hi2 := HIN.out (Or.inr (Or.inr (Or.inr rfl)))
          have hs2 : M.stK l (k + (n + 1)) = true := by show M.stK l (k + n + 1) = true; rw [HSU.out]; unfold M.st1; rw [h10b]; rfl
          have HI2 := Lib.hid hi2
          have HS2 := Lib.hid hs2
          clear h10 h10b hi2 hs2
          go_wp2_with fail
          exact ⟨⟨n + 1, by omega, by simp; omega, by rw [HS2.out], HI2.out⟩, by simp [intOf]; omega⟩
    · go_wp2_with fail
      go_ret
      exact ⟨ret_int (by rw [M.behind_all [3] (M.blank l) k n (by rw [HBZ.out, HZ.out]; omega) (by rw [HBZ.out, HZ.out]; omega) HB.out, HBZ.out, HZ.out]; omega), rfl⟩

/-- What the tokens of a blanked text are in the document's words. -/
theorem rTok_blank (l : List UInt8) (k : Nat) (hk : k < l.length) (hst : M.stK l k = false) (h37 : l[k] ≠ 37) : M.token (M.blank l) k = if M.tokKind l k = 0 then none else some (rTok l k) :=
  M.token_blank l k hk hst h37
/-- One is outside of comments. -/
def Outside (l : List UInt8) (k : Nat) : Prop := (k ≤ l.length → M.stK l k = false) ∧ ∀ h : k < l.length, l[k] ≠ 37
theorem outside_gap (l : List UInt8) (k : Nat) (q : Nat) (hq : M.behind [3] (M.blank l) k = q) : q < l.length → M.stK l q = false ∧ ∀ h : q < l.length, l[q] ≠ 37 := by
  subst hq
  intro h
  obtain ⟨h1, h2⟩ := M.gap_out l k h
  exact ⟨h1, fun _ => h2⟩

set_option maxHeartbeats 2000000 in
set_option maxRecDepth 100000 in
theorem refScan_ok (s : ByteArray) (w : World) (h : (M.fault s.data.toList).2 = 0) :
    Calls Tryz.prog 12 #[.string s] w (TokPost (M.scan s.data.toList) w) := by
  have hsm0 : s.size ≤ 2500 := by rw [← M.size_list]; exact M.fault_small s.data.toList h
  have hscan : M.scan s.data.toList = M.tokens (M.blank s.data.toList) := by unfold M.scan; rw [if_pos h]
  obtain ⟨p, c, hf⟩ : ∃ p c, M.fault s.data.toList = (p, c) := ⟨_, _, rfl⟩
  rw [hf] at h
  dsimp only at h
  subst h
  obtain ⟨i0, hi, hz0, hz1, hz2⟩ := info_parts lxInfo
  have HI0 := Lib.hid hi
  have HZ0 := Lib.hid hz0
  have HZ1 := Lib.hid hz1
  have HZ2 := Lib.hid hz2
  have HF0 := Lib.hid hf
  rw [hscan]
  clear hi hz0 hz1 hz2 hf hscan
  have hsm : s.size ≤ maxLen := by unfold maxLen; omega
  have hz := M.size_list s
  have hbz := M.blank_len s.data.toList
  rw [hz] at hbz
  have HZL := Lib.hid hz
  have HBZ := Lib.hid hbz
  clear hz hbz
  go_enter Tryz.func12, Tryz.ntmps12
  go_wp2_with fail
  refine (refCheck_any s _ hsm).mono ?_
  rintro e w0 ⟨rfl, hB0⟩
  rw [HF0.out]
  dsimp only
  go_wp2_with fail
  refine (gap_any s 0 _ hsm (by omega) rfl).mono ?_
  rintro e w1 ⟨rfl, rfl⟩
  obtain ⟨k0, hk0⟩ : ∃ k, M.behind [3] (M.blank s.data.toList) 0 = k := ⟨_, rfl⟩
  have hk0le : k0 ≤ s.size := by rw [← hk0, ← HBZ.out]; exact M.behind_le _ _ _ (by omega)
  have ho0 := outside_gap s.data.toList 0 k0 hk0
  have htk : M.tokensF (s.size + 1) (M.blank s.data.toList) k0 [] = M.tokens (M.blank s.data.toList) := by unfold M.tokens; rw [hk0, HBZ.out]
  rw [hk0]
  have HTK := Lib.hid htk
  have HO0 := Lib.hid ho0
  clear hk0 htk ho0
  go_wp2_with fail
  go_loopw [7, 8] (fun v i wr => ∃ (k f : Nat) (acc : List M.Lx), k ≤ s.size ∧ s.size < k + f ∧ acc.length ≤ 900 ∧ i = .int .i64 k ∧ Hid (M.tokensF f (M.blank s.data.toList) k acc = M.tokens (M.blank s.data.toList)) ∧ Hid (k < s.data.toList.length → M.stK s.data.toList k = false ∧ ∀ h : k < s.data.toList.length, s.data.toList[k] ≠ 37) ∧ wr.ownsRow w0.heap.size 47 3 v acc.length (lxCells acc) ∧ Below w0.heap.size w0 wr) (fun _ i _ => s.size - (intOf i).toNat)
  case atStart => exact ⟨k0, s.size + 1, [], hk0le, by omega, by simp, rfl, HTK, HO0, ⟨rfl, Or.inl ⟨rfl, rfl⟩⟩, Below.refl _ _⟩
  case round =>
    rename_i wr
    obtain ⟨k, f, acc, hk, hf, h900, rfl, HF, HOUT, hown, hB⟩ := hrel
    have hBw : Below w.heap.size w wr := below2 hB0 hB
    have hzr : w0.heap.size ≤ wr.heap.size := hB.size
    have HO := Lib.hid hown
    clear hown
    by_cases hlt : k < s.size
    · obtain ⟨f, rfl⟩ : ∃ g, f = g + 1 := ⟨f - 1, by omega⟩
      have hkl : k < s.data.toList.length := by rw [HZL.out]; exact hlt
      obtain ⟨hst, h37⟩ := HOUT.out hkl
      have htb := rTok_blank s.data.toList k hkl hst (h37 hkl)
      have hto := M.tok_out s.data.toList k (by omega) hst (M.tok_len s.data.toList k (by omega))
      have htl := M.tok_len s.data.toList k (by omega)
      have hfit := M.token_fits (M.blank s.data.toList) k
      rw [htb, HBZ.out] at hfit
      obtain ⟨t, ht⟩ : ∃ t, M.str (M.tokText s.data.toList k) = t := ⟨_, rfl⟩
      obtain ⟨c, hc⟩ : ∃ c, M.tokKind s.data.toList k = c := ⟨_, rfl⟩
      have htz : (M.tokText s.data.toList k).length = t.size := by rw [← ht, M.str_size]
      have hrt : rTok s.data.toList k = ⟨c, t, k⟩ := by unfold rTok; rw [ht, hc]
      rw [htz] at hto htl
      rw [HZL.out] at htl
      rw [hc, hrt] at htb hfit
      have hst : M.tokensF (f + 1) (M.blank s.data.toList) k acc = match M.token (M.blank s.data.toList) k with
          | none => ([], k, 4)
          | some x => if acc.length = 900 then ([], k, 5) else M.tokensF f (M.blank s.data.toList) (M.behind [3] (M.blank s.data.toList) (k + x.text.size)) (acc ++ [x]) := by
        rw [M.tokensF, if_pos (by rw [HBZ.out]; exact hlt)]; rfl
      rw [htb] at hst
      have HRT := Lib.hid hrt
      have HTO := Lib.hid hto
      by_cases hc0 : c = 0
      · subst hc0
        have hres : M.tokens (M.blank s.data.toList) = ([], k, 4) := by rw [← HF.out, hst, if_pos rfl]
        have HRES := Lib.hid hres
        clear ht hst hres h37 htb hto hfit hc htz hrt
        go_wp2_with fail
        refine (rTok_any s k _ (by omega) hlt).mono ?_
        rintro e w2 ⟨rfl, hB2⟩
        rw [HRT.out]
        go_wp2_with fail
        go_ret3
        exact tokPost_none k 4 HRES.out (belowA (below2 hBw hB2) _)
      · have hfit1 := hfit ⟨c, t, k⟩ hlt (by rw [if_neg hc0])
        have ht1 : 1 ≤ t.size := hfit1.1
        have hc0' : ((c : Int) == 0) = false := by rw [beq_eq_false_iff_ne]; omega
        by_cases h9 : acc.length = 900
        · have hres : M.tokens (M.blank s.data.toList) = ([], k, 5) := by rw [← HF.out, hst, if_neg hc0]; exact if_pos h9
          have HRES := Lib.hid hres
          have h9' : ((acc.length : Int) == 900) = true := by rw [h9]; rfl
          obtain ⟨av, ac, rfl⟩ := own_slice HO.out
          clear ht hst hres h37 htb hto hfit hc htz hrt h9 hfit1
          go_wp2_with fail
          refine (rTok_any s k _ (by omega) hlt).mono ?_
          rintro e w2 ⟨rfl, hB2⟩
          rw [HRT.out]
          go_wp2_with fail
          go_ret3
          exact tokPost_none k 5 HRES.out (belowA (below2 hBw hB2) _)
        · have hst2 : M.tokensF f (M.blank s.data.toList) (M.behind [3] (M.blank s.data.toList) (k + t.size)) (acc ++ [⟨c, t, k⟩]) = M.tokens (M.blank s.data.toList) := by rw [← HF.out, hst, if_neg hc0]; exact (if_neg h9).symm
          have h9' : ((acc.length : Int) == 900) = false := by rw [beq_eq_false_iff_ne]; omega
          obtain ⟨av, ac, rfl⟩ := own_slice HO.out
          have HST2 := Lib.hid hst2
          clear ht hst hst2 h37 htb hto hfit hc htz hrt hfit1
          go_wp2_with fail
          refine (rTok_any s k _ (by omega) hlt).mono ?_
          rintro e w2 ⟨rfl, hB2⟩
          rw [HRT.out]
          have ho2 := (own_below HO.out hB2).alloc (.cells #[.int .u8 c, .string t, .int .i64 k] 47)
          have hi := HI0.out
          have hz0 := HZ0.out
          have hz1 := HZ1.out
          have hz2 := HZ2.out
          have HO2 := Lib.hid ho2
          clear ho2
          go_wp2_with (at_builtin; refine wpList_append_own _ rfl _ _ 24 rfl w0.heap.size 47 i0 (.agg #[.int .u8 0, .string ⟨#[]⟩, .int .i64 0]) 3 32 Tryz.underlying24 hi hz0 hz1 hz2 rfl (by decide) _ _ _ rfl (HO2.out.alloc _) ⟨w2.heap.size + 1, 0, none⟩ 1 1 [.int .u8 c, .string t, .int .i64 k] rfl rfl ?c1 ?c2 ?c3 ?c4 ?c5 ?_)
          case c1 =>
            have := three_new (w2.alloc (.cells #[.int .u8 c, .string t, .int .i64 k] 47)) (.int .u8 c) (.string t) (.int .i64 k) 47
            rw [show (w2.alloc (.cells #[.int .u8 c, .string t, .int .i64 k] 47)).heap.size = w2.heap.size + 1 from by simp] at this
            exact this
          case c2 => intro u hu; simp at hu; rcases hu with rfl | rfl | rfl <;> rfl
          case c3 => unfold maxLen; omega
          case c4 => omega
          case c5 => have := hB2.size; simp; omega
          intro v' w3 hown3 hgrow _
          have hne : ∀ j, (Value.slice av acc.length ac).ownBlock = some j → w0.heap.size ≤ j ∧ j < w2.heap.size := fun j hj => (own_below HO.out hB2).lt j hj
          have x1 : w3.cell? ⟨w2.heap.size, 1, none⟩ = some (.string t) := by
            refine hgrow.cell ?_ (fun e => ?_)
            · rw [World.cell?_alloc_past _ _ _ (by simp), World.cell?_alloc_at _ _ _ _ rfl]; rfl
            · have := (hne _ e.symm).2; simp at this
          have hB3 : Below w0.heap.size w0 w3 := by
            refine (((hB.trans (hB2.mono hzr)).alloc (by have := hB2.size; omega) _).alloc (by have := hB2.size; simp; omega) _).grown hgrow (by have := hB2.size; simp; omega) (fun j hj => (hne j hj).1)
          have R1 := Lib.hid hown3
          have R2 := Lib.hid hB3
          clear hown3 hgrow hne hB3 hi hz0 hz1 hz2
          obtain ⟨bv, bc, rfl⟩ := own_slice R1.out
          have hkt : k + t.size ≤ s.size := htl
          go_wp2_with fail
          refine (gap_any s (k + t.size) _ hsm hkt HTO.out).mono ?_
          rintro e w4 ⟨rfl, rfl⟩
          obtain ⟨k', hk'⟩ : ∃ q, M.behind [3] (M.blank s.data.toList) (k + t.size) = q := ⟨_, rfl⟩
          have hk1 : k' ≤ s.size := by rw [← hk', ← HBZ.out]; exact M.behind_le _ _ _ (by rw [HBZ.out]; exact hkt)
          have hk2 : k + t.size ≤ k' := by rw [← hk']; exact M.behind_ge _ _ _
          have ho3 := outside_gap s.data.toList (k + t.size) k' hk'
          have HO3 := Lib.hid ho3
          rw [hk'] at HST2 ⊢
          clear hk' ho3
          go_wp2_with fail
          go_roundw
          case rel =>
            refine ⟨k', f, acc ++ [⟨c, t, k⟩], hk1, by omega, by simp; omega, rfl, HST2, HO3, ?_, R2.out⟩
            have := R1.out
            rw [lxCells_snoc, List.length_append]
            exact this
          case measure => simp [intOf]; omega
    · obtain ⟨av, ac, rfl⟩ := own_slice HO.out
      have hres : M.tokens (M.blank s.data.toList) = (acc, 0, 0) := by
        rw [← HF.out]
        cases f with
        | zero => rfl
        | succ f => rw [M.tokensF, if_neg (by rw [HBZ.out]; exact hlt)]
      obtain ⟨aa, cc, e, hle, hnc, ha⟩ := own_lx HO.out
      cases e
      have HRES := Lib.hid hres
      have HA := Lib.hid ha
      have HLE := Lib.hid hle
      have HNC := Lib.hid hnc
      clear hres ha hle hnc
      go_wp2_with fail
      go_ret3
      exact ⟨av, ac, by rw [HRES.out]; rfl, by rw [HRES.out]; exact HLE.out, HNC.out, by rw [HRES.out]; exact HA.out, hBw⟩

set_option maxHeartbeats 1000000 in
set_option maxRecDepth 100000 in
theorem refScan_no (s : ByteArray) (w : World) (hs : s.size ≤ maxLen) (h : (M.fault s.data.toList).2 ≠ 0) :
    Calls Tryz.prog 12 #[.string s] w (TokPost (M.scan s.data.toList) w) := by
  obtain ⟨p, c, hf⟩ : ∃ p c, M.fault s.data.toList = (p, c) := ⟨_, _, rfl⟩
  have hres : M.scan s.data.toList = ([], p, c) := by unfold M.scan; rw [if_neg h, hf]
  rw [hf] at h
  dsimp only at h
  have h3 : ((c : Int) == 0) = false := by rw [beq_eq_false_iff_ne]; omega
  have h4 : ((c : Int) != 0) = true := by rw [bne_iff_ne]; omega
  have HF := Lib.hid hf
  have HRES := Lib.hid hres
  clear hf hres
  go_enter Tryz.func12, Tryz.ntmps12
  go_wp2_with fail
  refine (refCheck_any s _ hs).mono ?_
  rintro e w1 ⟨rfl, hB1⟩
  rw [HF.out]
  dsimp only
  go_wp2_with fail
  go_ret3
  exact tokPost_none p c HRES.out hB1
theorem refScan_any (s : ByteArray) (w : World) (hs : s.size ≤ maxLen) :
    Calls Tryz.prog 12 #[.string s] w (TokPost (M.scan s.data.toList) w) := by
  by_cases h : (M.fault s.data.toList).2 = 0
  · exact refScan_ok s w h
  · exact refScan_no s w hs h

set_option maxHeartbeats 1000000 in
set_option maxRecDepth 100000 in
theorem lexScans_any (s : ByteArray) (w : World) (hw : Ready w) (hs : s.size ≤ maxLen) :
    Calls Tryz.prog 3 #[.string s] w fun e w' => e = .returned (.bool true) ∧ Below w.heap.size w w' := by
  have HW := Lib.hid hw
  clear hw
  by_cases h3 : s.size ≤ 3000
  · have d1 : decide (s.size ≤ 3000) = true := decide_eq_true h3
    have D1 := Lib.hid d1
    obtain ⟨l, p, c, hr⟩ : ∃ l p c, M.scan s.data.toList = (l, p, c) := ⟨_, _, _, rfl⟩
    have hll : l.length ≤ 900 := by have := (M.scan_fine s.data.toList).2.1; rw [hr] at this; exact this
    have hsame := (M.sameLx_iff l l).2 rfl
    have HSAME := Lib.hid hsame
    have HR := Lib.hid hr
    clear hr d1 hsame
    go_enter Tryz.func3, Tryz.ntmps3
    go_wp2_with fail
    refine (short_any s _).mono ?_
    rintro e w1 ⟨rfl, hBw⟩
    rw [D1.out]
    go_wp2_with fail
    refine (scan_any s _ (HW.out.below hBw) hs).mono ?_
    rintro e w2 ⟨a1, k1, rfl, _, _, hs1, hB2⟩
    rw [HR.out] at hs1 ⊢
    dsimp only at hs1 ⊢
    replace hBw := below2 hBw hB2
    have HL1 := Lib.hid hs1
    clear hB2 hs1
    go_wp2_with fail
    refine (refScan_any s _ hs).mono ?_
    rintro e w3 ⟨a2, k2, rfl, _, _, hs2, hB2⟩
    rw [HR.out] at hs2 ⊢
    dsimp only at hs2 ⊢
    replace hBw := below2 hBw hB2
    have HL2 := Lib.hid (HL1.out.below hB2)
    have HM2 := Lib.hid hs2
    clear hB2 hs2
    go_wp2_with fail
    refine (sameTokens_any a1 a2 k1 k2 l l _ (by omega) (by omega) HL2.out HM2.out).mono ?_
    rintro e w5 ⟨rfl, hB2⟩
    rw [HSAME.out]
    replace hBw := below2 hBw hB2
    clear hB2
    go_wp2_with fail
    refine (awake_any _ (HW.out.below hBw)).mono ?_
    rintro e w8 ⟨rfl, hB2⟩
    go_wp2_with fail
    go_ret
    exact ⟨rfl, below2 hBw hB2⟩
  · have d1 : decide (s.size ≤ 3000) = false := decide_eq_false h3
    have D1 := Lib.hid d1
    clear d1
    go_enter Tryz.func3, Tryz.ntmps3
    go_wp2_with fail
    refine (short_any s _).mono ?_
    rintro e w1 ⟨rfl, hB1⟩
    rw [D1.out]
    go_wp2_with fail
    refine (awake_any _ (HW.out.below hB1)).mono ?_
    rintro e w8 ⟨rfl, hB2⟩
    go_wp2_with fail
    go_ret
    exact ⟨rfl, below2 hB1 hB2⟩
end Go.Proofs.YtcaanpifkcaldaaGreatDoor
