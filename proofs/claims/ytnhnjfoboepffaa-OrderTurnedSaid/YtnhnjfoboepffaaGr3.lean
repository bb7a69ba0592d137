/- Texts of one's own, joined: OrdB, OrdC. -/
import Derived.Test.YtnhnjfoboepffaaGr2
namespace Go.Proofs.Ytnhnjfoboepffaa
open Go.RowKit

set_option maxHeartbeats 1000000 in
set_option maxRecDepth 100000 in
theorem in_any (n a b : Int) (w : World) : Calls Try.prog 39 #[.int .i64 n, .int .i64 a, .int .i64 b] w fun e w' => e = .returned (.bool (decide (a ≤ n) && decide (n ≤ b))) ∧ w = w' := by
  cases h : decide (a ≤ n) with
  | true =>
    go_enter Try.func39, Try.ntmps39
    go_wp2_with fail
    go_ret
    exact ⟨rfl, rfl⟩
  | false =>
    go_enter Try.func39, Try.ntmps39
    go_wp2_with fail
    go_ret
    exact ⟨rfl, rfl⟩

set_option maxHeartbeats 1000000 in
set_option maxRecDepth 100000 in
theorem sameInts_q (a a' : Option Addr) (c c' : Nat) (l m : List Int) (w : World) (hl : l.length ≤ 1000000) (ho : IntSl w a l) (hn : IntSl w a' m) :
    Calls Try.prog 17 #[.slice a l.length c, .slice a' m.length c'] w fun e w' => e = .returned (.bool (decide (l = m))) ∧ ∃ q, w' = w.drewN q := by
  have HO := Lib.hid ho
  have HN := Lib.hid hn
  clear ho hn
  by_cases hlen : l.length = m.length
  · have h1 : ((l.length : Int) == (m.length : Int)) = true := by rw [hlen]; exact beq_self_eq_true _
    have h2 : ((l.length : Int) != (m.length : Int)) = false := by rw [hlen]; exact bne_self_eq_false _
    have HLEN := Lib.hid hlen
    clear hlen
    go_enter Try.func17, Try.ntmps17
    go_wp2_with fail
    go_loopw [5] (fun i wr => ∃ k : Nat, k ≤ l.length ∧ i = .int .i64 k ∧ Hid (∀ j, (h : j < l.length) → (h2 : j < m.length) → j < k → l[j] = m[j]) ∧ ∃ q, Hid (wr = w.drewN q)) (fun i _ => l.length - (intOf i).toNat)
    case atStart => exact ⟨0, by omega, rfl, Lib.hid (fun j _ _ h => by omega), 0, Lib.hid rfl⟩
    case round =>
      rename_i wr
      obtain ⟨k, hk, rfl, HALL, q, HQ⟩ := hrel
      have hB : Below w.heap.size w wr := by rw [HQ.out]; exact belowN (Below.refl _ _) q
      by_cases hkl : k < l.length
      · have hkm : k < m.length := by rw [← HLEN.out]; exact hkl
        obtain ⟨b, off, rfl, ha⟩ := HO.out.at hkl
        obtain ⟨b', off', rfl, ha'⟩ := HN.out.at hkm
        have c0 := (ha.below hB).at_ k hkl
        have d0 := (ha'.below hB).at_ k hkm
        have n1 : (k : Int) < (l.length : Int) := by omega
        have n3 : (k : Int) < (m.length : Int) := by omega
        have n2 : (0 : Int) ≤ (k : Int) := by omega
        have hno : l[k] ≠ m[k] → decide (l = m) = false := fun hne => decide_eq_false fun e => hne (by simp only [e])
        have hnx : l[k] = m[k] → ∀ j, (h : j < l.length) → (h2 : j < m.length) → j < k + 1 → l[j] = m[j] := by
          intro hp j q1 q2 hj
          rcases Nat.lt_succ_iff_lt_or_eq.1 hj with hj | rfl
          · exact HALL.out j q1 q2 hj
          · exact hp
        obtain ⟨x, hx⟩ : ∃ x, l[k] = x := ⟨_, rfl⟩
        obtain ⟨y, hy⟩ : ∃ y, m[k] = y := ⟨_, rfl⟩
        rw [hx] at c0 hno hnx
        rw [hy] at d0 hno hnx
        have HNO := Lib.hid hno
        have HNX := Lib.hid hnx
        clear ha ha' hx hy hno hnx
        by_cases hxy : x = y
        · have k1 : (x == y) = true := by rw [hxy]; exact beq_self_eq_true _
          have k2 : (x != y) = false := by rw [hxy]; exact bne_self_eq_false _
          have HN2 := Lib.hid (HNX.out hxy)
          clear hxy
          go_wp2_with fail
          go_quiet (fail)
          go_wp2_with fail
          exact ⟨⟨k + 1, by omega, by simp, HN2, _, Lib.hid (by rw [HQ.out, World.drewN_drewN])⟩, by simp [intOf]; omega⟩
        · have k1 : (x == y) = false := by rw [beq_eq_false_iff_ne]; exact hxy
          have k2 : (x != y) = true := by rw [bne_iff_ne]; exact hxy
          have HR := Lib.hid (HNO.out hxy)
          clear hxy
          go_wp2_with fail
          go_quiet (fail)
          go_wp2_with fail
          go_ret
          exact ⟨ret_bool HR.out.symm, _, by rw [HQ.out, World.drewN_drewN]⟩
      · have hkl' : ¬ (k : Int) < (l.length : Int) := by omega
        have hres : decide (l = m) = true := decide_eq_true (List.ext_getElem HLEN.out fun j q1 q2 => HALL.out j q1 q2 (by omega))
        have HRES := Lib.hid hres
        clear hres
        go_wp2_with fail
        go_ret
        exact ⟨ret_bool HRES.out.symm, q, HQ.out⟩
  · have h1 : ((l.length : Int) == (m.length : Int)) = false := by rw [beq_eq_false_iff_ne]; omega
    have h2 : ((l.length : Int) != (m.length : Int)) = true := by rw [bne_iff_ne]; omega
    have hres : decide (l = m) = false := decide_eq_false fun e => hlen (by rw [e])
    have HRES := Lib.hid hres
    clear hres hlen
    go_enter Try.func17, Try.ntmps17
    go_wp2_with fail
    go_ret
    exact ⟨ret_bool HRES.out.symm, 0, rfl⟩

theorem sameInts_any (a a' : Option Addr) (c c' : Nat) (l m : List Int) (w : World) (hl : l.length ≤ 1000000) (ho : IntSl w a l) (hn : IntSl w a' m) :
    Calls Try.prog 17 #[.slice a l.length c, .slice a' m.length c'] w fun e w' => e = .returned (.bool (decide (l = m))) ∧ Below w.heap.size w w' :=
  (sameInts_q a a' c c' l m w hl ho hn).mono fun _ _ ⟨he, q, hq⟩ => ⟨he, by rw [hq]; exact belowN (Below.refl _ _) q⟩

set_option maxHeartbeats 4000000 in
set_option maxRecDepth 100000 in
/-- Tables that are the same are said to be. -/
theorem sameTable_same (t : M.Tb) (p p' : Tp) (w : World) (h1 : t.elems.length ≤ 1000000) (h2 : t.above.length ≤ 1000000) (h3 : t.wrong.length ≤ 1000000) (h4 : ∀ l, l ∈ t.above → l.length ≤ 1000000) (ht : TbIn w t p) (ht' : TbIn w t p') :
    Calls Try.prog 13 #[tbV t p, tbV t p'] w fun e w' => e = .returned (.bool true) ∧ Below w.heap.size w w' := by
  have hBB : Below w.heap.size w ((w.alloc (.cells (tbA t p) 26)).alloc (.cells (tbA t p') 26)) := belowA (below1 w _) _
  have hb1 := (tbBox (t := t) (p := p) (box_new w (tbA t p) 26)).below (below1 _ (.cells (tbA t p') 26))
  have hb2 := tbBox (t := t) (p := p') (box_new (w.alloc (.cells (tbA t p) 26)) (tbA t p') 26)
  rw [World.size_alloc] at hb2
  obtain ⟨W0, hW0⟩ : ∃ W0, ((w.alloc (.cells (tbA t p) 26)).alloc (.cells (tbA t p') 26)) = W0 := ⟨_, rfl⟩
  have HT := Lib.hid (ht.below hBB)
  have HT' := Lib.hid (ht'.below hBB)
  rw [hW0] at HT HT' hb1 hb2 hBB
  have hz : w.heap.size + 2 ≤ W0.heap.size := by rw [← hW0]; simp
  have e1 : (t.name.toList == t.name.toList) = true := beq_self_eq_true _
  have e2 : (t.name.toList != t.name.toList) = false := bne_self_eq_false _
  have e3 : ((t.elems.length : Int) != (t.elems.length : Int)) = false := bne_self_eq_false _
  have e4 : ((t.above.length : Int) != (t.above.length : Int)) = false := bne_self_eq_false _
  have e5 : ((t.wrong.length : Int) != (t.wrong.length : Int)) = false := bne_self_eq_false _
  obtain ⟨x0, x1, x2, x3⟩ := hb1
  obtain ⟨y0, y1, y2, y3⟩ := hb2
  have HB := Lib.hid hBB
  have H4 := Lib.hid h4
  clear ht ht' hBB h4
  go_enter Try.func13, Try.ntmps13
  go_wp2_with fail
  clear hW0
  go_loopw [5] (fun i wr => ∃ k : Nat, k ≤ t.elems.length ∧ i = .int .i64 k ∧ Below W0.heap.size W0 wr) (fun i _ => t.elems.length - (intOf i).toNat)
  case atStart => exact ⟨0, by omega, rfl, Below.refl _ _⟩
  case round =>
    rename_i wr
    obtain ⟨k, hk, rfl, hB⟩ := hrel
    have u1 := cell_below x1 hB
    have v1 := cell_below y1 hB
    by_cases hkl : k < t.elems.length
    · obtain ⟨b, off, ea, ha⟩ := (HT.out.below hB).es.at hkl
      obtain ⟨b', off', ea', ha'⟩ := (HT'.out.below hB).es.at hkl
      have c0 := ha.at_ k hkl
      have d0 := ha'.at_ k hkl
      obtain ⟨x, hx⟩ : ∃ x, t.elems[k] = x := ⟨_, rfl⟩
      rw [hx] at c0 d0
      rw [ea] at u1
      rw [ea'] at v1
      have n1 : (k : Int) < (t.elems.length : Int) := by omega
      have n2 : (0 : Int) ≤ (k : Int) := by omega
      have k1 : (x.toList == x.toList) = true := beq_self_eq_true _
      have k2 : (x.toList != x.toList) = false := bne_self_eq_false _
      clear ha ha' hx ea ea'
      go_wp2_with fail
      go_quiet (fail)
      go_wp2_with fail
      exact ⟨⟨k + 1, by omega, by simp, belowN hB _⟩, by simp [intOf]; omega⟩
    · obtain rfl : k = t.elems.length := by omega
      have m1 : decide ((t.elems.length : Int) < (t.elems.length : Int)) = false := decide_eq_false (by omega)
      go_wp2_with fail
      go_loopw [6] (fun i wo => ∃ k : Nat, k ≤ t.above.length ∧ i = .int .i64 k ∧ Below W0.heap.size W0 wo) (fun i _ => t.above.length - (intOf i).toNat)
      case atStart => exact ⟨0, by omega, rfl, hB⟩
      case round =>
        clear u1 v1 hB
        rename World => wo
        obtain ⟨k, hk, rfl, hB⟩ := hrel
        have u2 := cell_below x2 hB
        have v2 := cell_below y2 hB
        by_cases hkl : k < t.above.length
        · obtain ⟨b, off, ea, ha⟩ := (HT.out.below hB).as_.at hkl
          obtain ⟨b', off', ea', ha'⟩ := (HT'.out.below hB).as_.at hkl
          obtain ⟨ra, rc, c0, _, _, g1⟩ := ha.at_ k hkl
          obtain ⟨ra', rc', d0, _, _, g2⟩ := ha'.at_ k hkl
          have hlen := H4.out t.above[k] (List.getElem_mem hkl)
          obtain ⟨x, hx⟩ : ∃ x, t.above[k] = x := ⟨_, rfl⟩
          rw [hx] at c0 d0 g1 g2 hlen
          rw [ea] at u2
          rw [ea'] at v2
          have n1 : (k : Int) < (t.above.length : Int) := by omega
          have n2 : (0 : Int) ≤ (k : Int) := by omega
          have hcall : ∀ n, Calls Try.prog 17 #[.slice ra x.length rc, .slice ra' x.length rc'] (wo.drewN n) fun e w' => e = .returned (.bool true) ∧ ∃ q, w' = (wo.drewN n).drewN q := fun n => by
            have := sameInts_q ra ra' rc rc' x x (wo.drewN n) hlen (g1.below (belowN (Below.refl _ _) n)) (g2.below (belowN (Below.refl _ _) n))
            rw [decide_eq_true rfl] at this
            exact this
          have HCALL := Lib.hid hcall
          clear ha ha' hx ea ea' g1 g2 hcall
          go_wp2_with fail
          go_quiet ((go_at_call 17; exact Calls.quiet_of (HCALL.out _)))
          go_wp2_with fail
          exact ⟨⟨k + 1, by omega, by simp, belowN hB _⟩, by simp [intOf]; omega⟩
        · obtain rfl : k = t.above.length := by omega
          have m2 : decide ((t.above.length : Int) < (t.above.length : Int)) = false := decide_eq_false (by omega)
          go_wp2_with fail
          go_loopw [7] (fun i wp => ∃ k : Nat, k ≤ t.wrong.length ∧ i = .int .i64 k ∧ Below W0.heap.size W0 wp) (fun i _ => t.wrong.length - (intOf i).toNat)
          case atStart => exact ⟨0, by omega, rfl, hB⟩
          case round =>
            clear u2 v2 hB
            rename World => wp
            obtain ⟨k, hk, rfl, hB⟩ := hrel
            have u3 := cell_below x3 hB
            have v3 := cell_below y3 hB
            by_cases hkl : k < t.wrong.length
            · obtain ⟨b, off, ea, ha⟩ := (HT.out.below hB).ws.at hkl
              obtain ⟨b', off', ea', ha'⟩ := (HT'.out.below hB).ws.at hkl
              have c0 := ha.at_ k hkl
              have d0 := ha'.at_ k hkl
              obtain ⟨x, hx⟩ : ∃ x, t.wrong[k] = x := ⟨_, rfl⟩
              rw [hx] at c0 d0
              rw [ea] at u3
              rw [ea'] at v3
              have n1 : (k : Int) < (t.wrong.length : Int) := by omega
              have n2 : (0 : Int) ≤ (k : Int) := by omega
              have k1 : (x == x) = true := beq_self_eq_true _
              have k2 : (x != x) = false := bne_self_eq_false _
              clear ha ha' hx ea ea'
              go_wp2_with fail
              go_quiet (fail)
              go_wp2_with fail
              exact ⟨⟨k + 1, by omega, by simp, belowN hB _⟩, by simp [intOf]; omega⟩
            · obtain rfl : k = t.wrong.length := by omega
              have m3 : decide ((t.wrong.length : Int) < (t.wrong.length : Int)) = false := decide_eq_false (by omega)
              have hBf : Below w.heap.size w wp := HB.out.trans (hB.mono (by omega))
              go_wp2_with fail
              go_ret
              exact ⟨rfl, hBf⟩
end Go.Proofs.Ytnhnjfoboepffaa

namespace Go.Proofs.Ytnhnjfoboepffaa
open Go.RowKit

theorem getD_0 (s : ByteArray) (h : 0 < s.size) : s.data.toList.headD 0 = s[0] := by
  have h2 : 0 < s.data.toList.length := by rw [M.size_list]; exact h
  cases hl : s.data.toList with
  | nil => rw [hl] at h2; simp at h2
  | cons x l =>
    have : s.data.toList[0]'h2 = x := by simp only [hl]; rfl
    rw [List.headD_cons, ← this]; rfl

set_option maxHeartbeats 2000000 in
set_option maxRecDepth 100000 in
theorem refIsName_any (s : ByteArray) (w : World) (hs : s.size ≤ maxLen) : Calls Try.prog 40 #[.string s] w fun e w' => e = .returned (.bool (M.isNameB s.data.toList)) ∧ w = w' := by
  unfold maxLen at hs
  have hls := M.size_list s
  by_cases h1 : 1 ≤ s.size ∧ s.size ≤ 12
  · have d1 : decide ((1 : Int) ≤ (s.size : Int)) = true := decide_eq_true (by omega)
    have d2 : decide ((s.size : Int) ≤ 12) = true := decide_eq_true (by omega)
    have hsz : 0 < s.size := h1.1
    have h0 := getD_0 s hsz
    have hcall := in_any s.size 1 12 w
    rw [d1, d2] at hcall
    have HC := Lib.hid hcall
    have hno : ∀ P : Prop, (M.isNameB s.data.toList = true → P) → ¬ P → M.isNameB s.data.toList = false := fun P h hn => by
      cases hb : M.isNameB s.data.toList
      · rfl
      · exact absurd (h hb) hn
    have hp : M.isNameB s.data.toList = true → M.letB s[0] = true ∧ ∀ c, c ∈ s.data.toList → M.nameB c = true := fun h => by
      unfold M.isNameB at h
      rw [h0] at h
      simp only [Bool.and_eq_true, List.all_eq_true] at h
      exact ⟨h.1.2, h.2⟩
    have hq : M.letB s[0] = true → (∀ j, (hj : j < s.size) → M.nameB s[j] = true) → M.isNameB s.data.toList = true := fun ha hb => by
      unfold M.isNameB
      rw [h0, ha, hls]
      simp only [Bool.and_eq_true, decide_eq_true_eq, List.all_eq_true]
      refine ⟨⟨⟨h1.1, h1.2⟩, trivial⟩, fun c hc => ?_⟩
      obtain ⟨j, hj, rfl⟩ := List.getElem_of_mem hc
      exact hb j (by omega)
    obtain ⟨c0, hc0⟩ : ∃ c, s[0] = c := ⟨_, rfl⟩
    rw [hc0] at hp hq
    have HNO := Lib.hid hno
    have HP := Lib.hid hp
    have HQ := Lib.hid hq
    have hc0' : s[0]'hsz = c0 := hc0
    have z0 : (0 : Int) < (s.size : Int) := by omega
    clear d1 d2 hcall hno hp hq h0 h1
    by_cases hl : M.letB c0 = true
    · have hl2 := hl
      unfold M.letB at hl2
      simp only [Bool.and_eq_true, decide_eq_true_eq] at hl2
      have e1 : decide ((c0.toNat : Int) < 97) = false := decide_eq_false (by omega)
      have e2 : decide ((122 : Int) < (c0.toNat : Int)) = false := decide_eq_false (by omega)
      have HL := Lib.hid hl
      clear hl hl2
      go_enter Try.func40, Try.ntmps40
      go_wp2_with fail
      refine HC.out.mono ?_
      rintro e w1 ⟨rfl, rfl⟩
      go_wp2_with fail
      go_loop [3] (fun i => ∃ k : Nat, k ≤ s.size ∧ i = .int .i64 k ∧ Hid (∀ j, (hj : j < s.size) → j < k → M.nameB s[j] = true)) (fun i => s.size - (intOf i).toNat)
      case atStart => exact ⟨0, by omega, rfl, Lib.hid (fun j _ hj => by omega)⟩
      case round =>
        obtain ⟨k, hk, rfl, HA⟩ := hrel
        by_cases hkl : k < s.size
        · obtain ⟨ch, hch⟩ : ∃ ch, s[k]'hkl = ch := ⟨_, rfl⟩
          have hx : M.nameB ch = true → ∀ j, (hj : j < s.size) → j < k + 1 → M.nameB s[j] = true := fun hg j hj hjk => by
            rcases Nat.lt_succ_iff_lt_or_eq.1 hjk with h | rfl
            · exact HA.out j hj h
            · rw [hch]; exact hg
          have hy : M.nameB ch = false → M.isNameB s.data.toList = false := fun hg => by
            cases hb : M.isNameB s.data.toList
            · rfl
            · have h2 := (HP.out hb).2 ch (by
                have : s.data.toList[k]'(by omega) = ch := hch
                rw [← this]; exact List.getElem_mem _)
              rw [h2] at hg; cases hg
          have HX := Lib.hid hx
          have HY := Lib.hid hy
          have n1 : (k : Int) < (s.size : Int) := by omega
          have n2 : (0 : Int) ≤ (k : Int) := by omega
          clear hx hy
          rcases M.byte_cases ch.toNat with q | q | q | q | q
          · have hg : M.nameB ch = true := by unfold M.nameB M.letB; simp only [Bool.or_eq_true, Bool.and_eq_true, decide_eq_true_eq]; omega
            have HNX := Lib.hid (HX.out hg)
            clear hg
            have g1 : decide ((97 : Int) ≤ (ch.toNat : Int)) = true := decide_eq_true (by omega)
            have g2 : decide ((ch.toNat : Int) ≤ 122) = true := decide_eq_true (by omega)
            go_wp2_with fail
            go_round
            case rel => exact ⟨k + 1, by omega, by go_num, HNX⟩
            case measure => simp [intOf]; omega
          · have hg : M.nameB ch = true := by unfold M.nameB M.letB; simp only [Bool.or_eq_true, Bool.and_eq_true, decide_eq_true_eq]; omega
            have HNX := Lib.hid (HX.out hg)
            clear hg
            have g1 : decide ((97 : Int) ≤ (ch.toNat : Int)) = false := decide_eq_false (by omega)
            have g3 : decide ((48 : Int) ≤ (ch.toNat : Int)) = true := decide_eq_true (by omega)
            have g4 : decide ((ch.toNat : Int) ≤ 57) = true := decide_eq_true (by omega)
            go_wp2_with fail
            go_round
            case rel => exact ⟨k + 1, by omega, by go_num, HNX⟩
            case measure => simp [intOf]; omega
          · have hg : M.nameB ch = false := by cases hb : M.nameB ch with | false => rfl | true => (unfold M.nameB M.letB at hb; simp only [Bool.or_eq_true, Bool.and_eq_true, decide_eq_true_eq] at hb; omega)
            have HBAD := Lib.hid (HY.out hg)
            clear hg
            have g1 : decide ((97 : Int) ≤ (ch.toNat : Int)) = false := decide_eq_false (by omega)
            have g3 : decide ((48 : Int) ≤ (ch.toNat : Int)) = false := decide_eq_false (by omega)
            go_wp2_with fail
            go_ret
            exact ⟨ret_bool HBAD.out.symm, rfl⟩
          · have hg : M.nameB ch = false := by cases hb : M.nameB ch with | false => rfl | true => (unfold M.nameB M.letB at hb; simp only [Bool.or_eq_true, Bool.and_eq_true, decide_eq_true_eq] at hb; omega)
            have HBAD := Lib.hid (HY.out hg)
            clear hg
            have g1 : decide ((97 : Int) ≤ (ch.toNat : Int)) = false := decide_eq_false (by omega)
            have g3 : decide ((48 : Int) ≤ (ch.toNat : Int)) = true := decide_eq_true (by omega)
            have g4 : decide ((ch.toNat : Int) ≤ 57) = false := decide_eq_false (by omega)
            go_wp2_with fail
            go_ret
            exact ⟨ret_bool HBAD.out.symm, rfl⟩
          · have hg : M.nameB ch = false := by cases hb : M.nameB ch with | false => rfl | true => (unfold M.nameB M.letB at hb; simp only [Bool.or_eq_true, Bool.and_eq_true, decide_eq_true_eq] at hb; omega)
            have HBAD := Lib.hid (HY.out hg)
            clear hg
            have g1 : decide ((97 : Int) ≤ (ch.toNat : Int)) = true := decide_eq_true (by omega)
            have g2 : decide ((ch.toNat : Int) ≤ 122) = false := decide_eq_false (by omega)
            have g3 : decide ((48 : Int) ≤ (ch.toNat : Int)) = true := decide_eq_true (by omega)
            have g4 : decide ((ch.toNat : Int) ≤ 57) = false := decide_eq_false (by omega)
            go_wp2_with fail
            go_ret
            exact ⟨ret_bool HBAD.out.symm, rfl⟩
        · obtain rfl : k = s.size := by omega
          have m1 : decide ((s.size : Int) < (s.size : Int)) = false := decide_eq_false (by omega)
          have HYES := Lib.hid (HQ.out HL.out (fun j hj => HA.out j hj hj))
          go_wp2_with fail
          go_ret
          exact ⟨ret_bool HYES.out.symm, rfl⟩
    · have hf : M.isNameB s.data.toList = false := by
        cases hb : M.isNameB s.data.toList
        · rfl
        · exact absurd (HP.out hb).1 hl
      have HFF := Lib.hid hf
      have hl2 : c0.toNat < 97 ∨ 122 < c0.toNat := by
        unfold M.letB at hl
        simp only [Bool.and_eq_true, decide_eq_true_eq] at hl
        omega
      clear hl hf
      rcases hl2 with q | q
      · have e1 : decide ((c0.toNat : Int) < 97) = true := decide_eq_true (by omega)
        go_enter Try.func40, Try.ntmps40
        go_wp2_with fail
        refine HC.out.mono ?_
        rintro e w1 ⟨rfl, rfl⟩
        go_wp2_with fail
        go_ret
        exact ⟨ret_bool HFF.out.symm, rfl⟩
      · have e1 : decide ((c0.toNat : Int) < 97) = false := decide_eq_false (by omega)
        have e2 : decide ((122 : Int) < (c0.toNat : Int)) = true := decide_eq_true (by omega)
        go_enter Try.func40, Try.ntmps40
        go_wp2_with fail
        refine HC.out.mono ?_
        rintro e w1 ⟨rfl, rfl⟩
        go_wp2_with fail
        go_ret
        exact ⟨ret_bool HFF.out.symm, rfl⟩
  · have hf : M.isNameB s.data.toList = false := by
      cases hb : M.isNameB s.data.toList
      · rfl
      · unfold M.isNameB at hb
        rw [hls] at hb
        simp only [Bool.and_eq_true, decide_eq_true_eq] at hb
        exact absurd hb.1.1 h1
    have hcall := in_any s.size 1 12 w
    have hd : (decide ((1 : Int) ≤ (s.size : Int)) && decide ((s.size : Int) ≤ 12)) = false := by
      cases hb : (decide ((1 : Int) ≤ (s.size : Int)) && decide ((s.size : Int) ≤ 12))
      · rfl
      · simp only [Bool.and_eq_true, decide_eq_true_eq] at hb; omega
    rw [hd] at hcall
    have HC := Lib.hid hcall
    have HFF := Lib.hid hf
    clear hcall hd hf h1
    go_enter Try.func40, Try.ntmps40
    go_wp2_with fail
    refine HC.out.mono ?_
    rintro e w1 ⟨rfl, rfl⟩
    go_wp2_with fail
    go_ret
    exact ⟨ret_bool HFF.out.symm, rfl⟩

set_option maxHeartbeats 1000000 in
set_option maxRecDepth 100000 in
theorem refFind_any (a : Option Addr) (c : Nat) (l : List ByteArray) (s : ByteArray) (w : World) (hl : l.length ≤ 1000000) (ho : StrSl w a l) :
    Calls Try.prog 41 #[.slice a l.length c, .string s] w fun e w' => e = .returned (.int .i64 (M.findI l s)) ∧ w = w' := by
  have HO := Lib.hid ho
  clear ho
  go_enter Try.func41, Try.ntmps41
  go_wp2_with fail
  go_loop [5] (fun i => ∃ k : Nat, k ≤ l.length ∧ i = .int .i64 k ∧ Hid (∀ j, (hj : j < l.length) → j < k → l[j] ≠ s)) (fun i => l.length - (intOf i).toNat)
  case atStart => exact ⟨0, by omega, rfl, Lib.hid (fun j _ hj => by omega)⟩
  case round =>
    obtain ⟨k, hk, rfl, HA⟩ := hrel
    by_cases hkl : k < l.length
    · obtain ⟨b, off, rfl, ha⟩ := HO.out.at hkl
      have c0 := ha.at_ k hkl
      have hyes := fun e => M.findI_stop l s k hkl HA.out e
      have hnx : l[k] ≠ s → ∀ j, (hj : j < l.length) → j < k + 1 → l[j] ≠ s := fun hn j hj hjk => by
        rcases Nat.lt_succ_iff_lt_or_eq.1 hjk with h | rfl
        · exact HA.out j hj h
        · exact hn
      obtain ⟨x, hx⟩ : ∃ x, l[k] = x := ⟨_, rfl⟩
      rw [hx] at c0 hyes hnx
      have HYES := Lib.hid hyes
      have HNX := Lib.hid hnx
      have n1 : (k : Int) < (l.length : Int) := by omega
      have n2 : (0 : Int) ≤ (k : Int) := by omega
      clear ha hx hyes hnx
      by_cases hxs : x = s
      · have k1 : (x.toList == s.toList) = true := by rw [hxs]; exact beq_self_eq_true _
        have HR := Lib.hid (HYES.out hxs)
        clear hxs
        go_wp2_with fail
        go_ret
        exact ⟨ret_int HR.out.symm, rfl⟩
      · have k1 : (x.toList == s.toList) = false := by
          rw [beq_eq_false_iff_ne]
          intro q
          rw [ByteArray.toList_eq, ByteArray.toList_eq] at q
          exact hxs (M.ba_ext q)
        have HN := Lib.hid (HNX.out hxs)
        clear hxs
        go_wp2_with fail
        go_round
        case rel => exact ⟨k + 1, by omega, by go_num, HN⟩
        case measure => simp [intOf]; omega
    · obtain rfl : k = l.length := by omega
      have m1 : decide ((l.length : Int) < (l.length : Int)) = false := decide_eq_false (by omega)
      have HR := Lib.hid (M.findI_all l s (fun j hj => HA.out j hj hj))
      go_wp2_with fail
      go_ret
      exact ⟨ret_int HR.out.symm, rfl⟩

set_option maxHeartbeats 1000000 in
set_option maxRecDepth 100000 in
theorem refWords_any (w : World) : Calls Try.prog 64 #[] w fun e w' => e = .returned (.slice (some ⟨w.heap.size, 0, none⟩) M.words.length 6) ∧ StrSl w' (some ⟨w.heap.size, 0, none⟩) M.words ∧ Below w.heap.size w w' := by
  go_enter Try.func64, Try.ntmps64
  go_wp2_with fail
  go_ret
  refine ⟨rfl, Or.inr ⟨w.heap.size, 0, rfl, by simp, fun i hi => ?_⟩, below1 _ _⟩
  rw [Nat.zero_add, World.cell?_alloc_at _ _ _ _ rfl]
  have hi6 : i < 6 := hi
  match i, hi6 with
  | 0, _ => rfl
  | 1, _ => rfl
  | 2, _ => rfl
  | 3, _ => rfl
  | 4, _ => rfl
  | 5, _ => rfl

set_option maxHeartbeats 1000000 in
set_option maxRecDepth 100000 in
theorem refIsTab_any (s : ByteArray) (w : World) (hs : s.size ≤ maxLen) : Calls Try.prog 38 #[.string s] w fun e w' => e = .returned (.bool (M.isTabB s)) ∧ Below w.heap.size w w' := by
  cases hn : M.isNameB s.data.toList with
  | false =>
    have hr : M.isTabB s = false := by unfold M.isTabB; rw [hn]; rfl
    have HN := Lib.hid hn
    have HR := Lib.hid hr
    clear hn hr
    go_enter Try.func38, Try.ntmps38
    go_wp2_with fail
    refine (refIsName_any s _ hs).mono ?_
    rintro e w1 ⟨rfl, rfl⟩
    rw [HN.out]
    go_wp2_with fail
    go_ret
    exact ⟨ret_bool HR.out.symm, Below.refl _ _⟩
  | true =>
    have hr : M.isTabB s = decide (M.findI M.words s < 0) := by unfold M.isTabB; rw [hn]; rfl
    have HN := Lib.hid hn
    have HR := Lib.hid hr
    clear hn hr
    go_enter Try.func38, Try.ntmps38
    go_wp2_with fail
    refine (refIsName_any s _ hs).mono ?_
    rintro e w1 ⟨rfl, rfl⟩
    rw [HN.out]
    go_wp2_with fail
    refine (refWords_any _).mono ?_
    rintro e w1 ⟨rfl, hst, hB⟩
    have HST := Lib.hid hst
    clear hst
    go_wp2_with fail
    refine (refFind_any _ 6 M.words s _ (by decide) HST.out).mono ?_
    rintro e w2 ⟨rfl, rfl⟩
    go_wp2_with fail
    go_ret
    exact ⟨ret_bool HR.out.symm, hB⟩
end Go.Proofs.Ytnhnjfoboepffaa
