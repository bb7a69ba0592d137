/- DERIVED. Contract of the document's own Token. -/
import Derived.Test.YtcaanpifkcaldaaGreatDoorLexBe
import Derived.IntWalk
namespace Go.Proofs.YtcaanpifkcaldaaGreatDoor
open Go.RowKit Go.WideMaps Go.Maps Go.Shelf

/-- What the document's Token comes to: the token that begins at a place; its kind is 0 if there is none. -/
def rTok (l : List UInt8) (k : Nat) : M.Lx := ⟨M.tokKind l k, M.str (M.tokText l k), k⟩
theorem rTok_run (s : ByteArray) (k n : Nat) (ht : M.tokText s.data.toList k = (s.data.toList.take n).drop k) : rTok s.data.toList k = ⟨M.tokKind s.data.toList k, s.extract k n, k⟩ := by
  unfold rTok
  rw [ht, ← sub_list, M.list_str]

theorem lx_heap {w1 : World} {n : Nat} {t : TypeId} {a b c : Value} (h : w1.heap[n]? = some (.cells #[a, b, c] t (0, 0))) :
    (w1.cell? ⟨n, 0, none⟩ = some a ∧ w1.cell? ⟨n, 1, none⟩ = some b ∧ w1.cell? ⟨n, 2, none⟩ = some c) ∧
    (w1.frozen? ⟨n, 0, none⟩ = false ∧ w1.frozen? ⟨n, 1, none⟩ = false ∧ w1.frozen? ⟨n, 2, none⟩ = false) :=
  ⟨⟨by rw [Lib.cell_of_heap h]; rfl, by rw [Lib.cell_of_heap h]; rfl, by rw [Lib.cell_of_heap h]; rfl⟩, Lib.frozen_of_heap h 0, Lib.frozen_of_heap h 1, Lib.frozen_of_heap h 2⟩

theorem tok_boxes {w w1 : World} {t1 t2 : TypeId} {a b c x y z : Value} (hB : Below ((w.alloc (.cells #[a, b, c] t1)).alloc (.cells #[x, y, z] t2)).heap.size ((w.alloc (.cells #[a, b, c] t1)).alloc (.cells #[x, y, z] t2)) w1) :
    w1.heap[w.heap.size]? = some (.cells #[a, b, c] t1 (0, 0)) ∧ w1.heap[w.heap.size + 1]? = some (.cells #[x, y, z] t2 (0, 0)) ∧ w.heap.size + 2 ≤ w1.heap.size ∧ Below w.heap.size w w1 := by
  refine ⟨?_, ?_, by have := hB.size; simpa using this, below2 (belowA (below1 w _) _) hB⟩
  · rw [hB.block _ (by simp; omega), Below.heap_alloc _ _ _ (by simp)]; exact (MapKept.heap_alloc w _).1
  · rw [hB.block _ (by simp)]
    have := (MapKept.heap_alloc (w.alloc (.cells #[a, b, c] t1)) (.cells #[x, y, z] t2)).1
    simpa using this

set_option maxHeartbeats 1000000 in
set_option maxRecDepth 100000 in
theorem rTok_word (s : ByteArray) (k : Nat) (w : World) (hs : s.size ≤ 281474976710656) (hk : k < s.size) (hc : M.cls s[k] = 1) :
    Calls Tryz.prog 32 #[.string s, .int .i64 k] w fun e w' => e = .returned (lxV (rTok s.data.toList k)) ∧ Below w.heap.size w w' := by
  obtain ⟨n, hn⟩ : ∃ n, M.behind [1, 2] s.data.toList k = n := ⟨_, rfl⟩
  have hn1 : k ≤ n := hn ▸ M.behind_ge _ _ _
  have hn2 : n ≤ s.size := by rw [← M.size_list, ← hn]; exact M.behind_le _ _ _ (by rw [M.size_list]; omega)
  have htx : M.tokText s.data.toList k = (s.data.toList.take n).drop k := by unfold M.tokText; rw [getD_at s k hk, hc]; simp only [hn]
  have hkd : M.tokKind s.data.toList k = M.wordKind (s.extract k n).data.toList := by unfold M.tokKind; rw [getD_at s k hk, hc, htx, sub_list]; rfl
  have hr := rTok_run s k n htx
  rw [hkd] at hr
  have hrp : runP true = [1, 2] := rfl
  obtain ⟨t, ht⟩ : ∃ t, s.extract k n = t := ⟨_, rfl⟩
  have htz : t.size = n - k := by rw [← ht, ByteArray.size_extract]; omega
  rw [ht] at hr hkd
  have HC := Lib.hid hc
  have HN := Lib.hid hn
  have HR := Lib.hid hr
  have HT := Lib.hid ht
  have HP := Lib.hid hrp
  have hsm : s.size ≤ maxLen := by unfold maxLen; omega
  have e1 : decide (M.cls s[k] = 1) = true := decide_eq_true hc
  have E1 := Lib.hid e1
  have hwk : M.wordKind t.data.toList = if M.kwords.contains t.data.toList = true then 3 else if t.size ≤ 12 then 1 else 0 := by unfold M.wordKind; rw [M.size_list]
  have HWK := Lib.hid hwk
  have HTZ := Lib.hid htz
  clear hc hn hr ht hrp htx hkd e1 hwk htz
  go_enter Tryz.func32, Tryz.ntmps32
  go_wp2_with fail
  refine (isLetter_any s[k] _).mono ?_
  rintro e w1 ⟨rfl, rfl⟩
  rw [E1.out]
  go_wp2_with fail
  refine (run_any s k true _ hsm (by omega)).mono ?_
  rintro e w1 ⟨rfl, rfl⟩
  rw [HP.out, HN.out]
  go_wp2_with fail
  rw [HT.out]
  refine (isKeyword_any t _).mono ?_
  rintro e w1 ⟨rfl, hB⟩
  obtain ⟨b, hb⟩ : ∃ b, M.kwords.contains t.data.toList = b := ⟨_, rfl⟩
  rw [hb] at HWK ⊢
  clear hb
  obtain ⟨hr, hx, hzw, hBw⟩ := tok_boxes hB
  obtain ⟨⟨q0, q1, q2⟩, f0, f1, f2⟩ := lx_heap hr
  obtain ⟨⟨p0, p1, p2⟩, g0, g1, g2⟩ := lx_heap hx
  clear hr hx hB
  have HBW := Lib.hid hBw
  clear hBw
  cases b
  · by_cases h12 : t.size ≤ 12
    · go_wp2_with fail
      refine bodyPost_ret (v := lxV ⟨1, t, k⟩) (by simp [results, Tryz.results32, go_sem, q0, q1, q2]) rfl ⟨by rw [HR.out, HWK.out, if_neg (by decide), if_pos h12]; rfl, below3 (HBW.out.setCell (p := ⟨w.heap.size + 1, 0, none⟩) (by show w.heap.size ≤ w.heap.size + 1; omega) _) _ (Nat.le_refl _) _ _ _⟩
    · go_wp2_with fail
      refine bodyPost_ret (v := lxV ⟨0, t, k⟩) (by simp [results, Tryz.results32, go_sem, q0, q1, q2]) rfl ⟨by rw [HR.out, HWK.out, if_neg (by decide), if_neg h12]; rfl, below3 HBW.out _ (Nat.le_refl _) _ _ _⟩
  · go_wp2_with fail
    refine bodyPost_ret (v := lxV ⟨3, t, k⟩) (by simp [results, Tryz.results32, go_sem, q0, q1, q2]) rfl ⟨by rw [HR.out, HWK.out]; simp, below3 (HBW.out.setCell (p := ⟨w.heap.size + 1, 0, none⟩) (by show w.heap.size ≤ w.heap.size + 1; omega) _) _ (Nat.le_refl _) _ _ _⟩

set_option maxHeartbeats 1000000 in
set_option maxRecDepth 100000 in
theorem rTok_num (s : ByteArray) (k : Nat) (w : World) (hs : s.size ≤ 281474976710656) (hk : k < s.size) (hc : M.cls s[k] = 2) :
    Calls Tryz.prog 32 #[.string s, .int .i64 k] w fun e w' => e = .returned (lxV (rTok s.data.toList k)) ∧ Below w.heap.size w w' := by
  obtain ⟨n, hn⟩ : ∃ n, M.behind [2] s.data.toList k = n := ⟨_, rfl⟩
  have hn1 : k < n := hn ▸ M.behind_gt [2] s.data.toList k (by rw [M.size_list]; exact hk) (by rw [show s.data.toList[k]'(by rw [M.size_list]; exact hk) = s[k] from rfl, hc]; rfl)
  have hn2 : n ≤ s.size := by rw [← M.size_list, ← hn]; exact M.behind_le _ _ _ (by rw [M.size_list]; omega)
  have htx : M.tokText s.data.toList k = (s.data.toList.take n).drop k := by unfold M.tokText; rw [getD_at s k hk, hc]; simp only [hn]
  have hkd : M.tokKind s.data.toList k = M.numberKind (s.extract k n).data.toList := by unfold M.tokKind; rw [getD_at s k hk, hc, htx, sub_list]; rfl
  have hr := rTok_run s k n htx
  rw [hkd] at hr
  have hxd : M.allDig (s.extract k n).data.toList := fun c hc => by
    rw [sub_list, ← hn] at hc
    have := M.behind_in _ _ _ _ hc
    exact M.cls_dig c (by simpa using this)
  have hrp : runP false = [2] := rfl
  obtain ⟨t, ht⟩ : ∃ t, s.extract k n = t := ⟨_, rfl⟩
  have htz : t.size = n - k := by rw [← ht, ByteArray.size_extract]; omega
  rw [ht] at hr hkd hxd
  have ht0 : 0 < t.size := by omega
  have hne : t.data.toList ≠ [] := by intro h; have := M.size_list t; rw [h] at this; simp at this; omega
  have hnk := M.isNumber_kind t.data.toList hxd hne
  have HC := Lib.hid hc
  have HN := Lib.hid hn
  have HR := Lib.hid hr
  have HT := Lib.hid ht
  have HP := Lib.hid hrp
  have hsm : s.size ≤ maxLen := by unfold maxLen; omega
  have e1 : decide (M.cls s[k] = 1) = false := decide_eq_false (by rw [hc]; decide)
  have e2 : decide (M.cls s[k] = 2) = true := decide_eq_true hc
  have E1 := Lib.hid e1
  have E2 := Lib.hid e2
  have HNK := Lib.hid hnk
  have HTZ := Lib.hid htz
  clear hc hn hr ht hrp htx hkd e1 e2 hnk htz hxd hne
  go_enter Tryz.func32, Tryz.ntmps32
  go_wp2_with fail
  refine (isLetter_any s[k] _).mono ?_
  rintro e w1 ⟨rfl, rfl⟩
  rw [E1.out]
  go_wp2_with fail
  refine (isDigit_any s[k] _).mono ?_
  rintro e w1 ⟨rfl, rfl⟩
  rw [E2.out]
  go_wp2_with fail
  refine (run_any s k false _ hsm (by omega)).mono ?_
  rintro e w1 ⟨rfl, rfl⟩
  rw [HP.out, HN.out]
  go_wp2_with fail
  rw [HT.out]
  refine (isNumber_any t _ ht0).mono ?_
  rintro e w1 ⟨rfl, rfl⟩
  obtain ⟨b, hb⟩ : ∃ b, M.isNumber t.data.toList = b := ⟨_, rfl⟩
  rw [hb] at HNK ⊢
  clear hb
  cases b
  · go_wp2_with fail
    refine bodyPost_ret (v := lxV ⟨0, t, k⟩) (by simp [results, Tryz.results32, go_sem]) rfl ⟨by rw [HR.out, HNK.out]; simp, ?_⟩
    exact belowA (below1 w _) _
  · go_wp2_with fail
    refine bodyPost_ret (v := lxV ⟨2, t, k⟩) (by simp [results, Tryz.results32, go_sem]) rfl ⟨by rw [HR.out, HNK.out]; simp, ?_⟩
    exact belowA (below1 w _) _

theorem sg_len : M.signs.length = 22 := by decide
theorem sgk_nil : M.signKind [] = 0 := rfl
/-- A sign with which the rest of a text begins. -/
theorem sg_pre (s : ByteArray) (k : Nat) (g : List UInt8) : (s.extract k (k + g.length)).data.toList = g ↔ g.isPrefixOf (s.data.toList.drop k) = true := by
  rw [sub_list, M.take_drop_sub, Nat.add_sub_cancel_left]
  constructor
  · intro h; rw [List.isPrefixOf_iff_prefix, ← h]; exact List.take_prefix _ _
  · intro h; exact (M.prefix_take g _ h).symm
theorem sg_pre_no (s : ByteArray) (k : Nat) (g : List UInt8) (hk : k ≤ s.size) (hg : ¬ k + g.length ≤ s.size) : g.isPrefixOf (s.data.toList.drop k) = false := by
  cases h : g.isPrefixOf (s.data.toList.drop k)
  · rfl
  · have := (List.isPrefixOf_iff_prefix.1 h).length_le
    rw [List.length_drop, M.size_list] at this
    omega

/-- What the loop over the signs keeps. -/
def SgI (w1 : World) (X : Nat) (l : List UInt8) (k j : Nat) (wr : World) : Prop :=
  wr.cell? ⟨X, 0, none⟩ = some (.int .u8 (M.signKind (M.bestK l j) : Nat)) ∧ wr.cell? ⟨X, 1, none⟩ = some (.string (M.str (M.bestK l j))) ∧ wr.cell? ⟨X, 2, none⟩ = some (.int .i64 k) ∧
  wr.frozen? ⟨X, 0, none⟩ = false ∧ wr.frozen? ⟨X, 1, none⟩ = false ∧ w1.grownBy wr (some X)

theorem grown_drewN {A B : World} {r : Option Nat} (h : A.grownBy B r) (n : Nat) : A.grownBy (B.drewN n) r := ⟨h.os, h.tape, h.output, h.size, h.block⟩
theorem SgI.drewN {w1 : World} {X : Nat} {l : List UInt8} {k j : Nat} {wr : World} (h : SgI w1 X l k j wr) (n : Nat) : SgI w1 X l k j (wr.drewN n) :=
  ⟨h.1, h.2.1, h.2.2.1, h.2.2.2.1, h.2.2.2.2.1, grown_drewN h.2.2.2.2.2 n⟩

theorem SgI.set {w1 : World} {X : Nat} {l : List UInt8} {k j : Nat} {wr : World} (h : SgI w1 X l k j wr) (g : List UInt8) (hb : M.bestK l (j + 1) = g) (hk : M.signKind g = 4) (n : Nat) :
    SgI w1 X l k (j + 1) (((wr.drewN n).setCell ⟨X, 0, none⟩ (.int .u8 4)).setCell ⟨X, 1, none⟩ (.string (M.str g))) := by
  obtain ⟨h0, h1, h2, h3, h4, h5⟩ := h.drewN n
  obtain ⟨V, hV⟩ : ∃ V, wr.drewN n = V := ⟨_, rfl⟩
  rw [hV] at h0 h1 h2 h3 h4 h5 ⊢
  unfold SgI
  rw [hb, hk]
  refine ⟨?_, ?_, ?_, by rw [World.frozen?_setCell, World.frozen?_setCell]; exact h3, by rw [World.frozen?_setCell, World.frozen?_setCell]; exact h4, grown_trans (grown_trans h5 (grown_set _ X 0 _)) (grown_set _ X 1 _)⟩
  · rw [set_other _ _ _ _ _ (by decide), set_same _ _ _ _ _ h0]; rfl
  · rw [set_same _ _ _ _ (.string (M.str (M.bestK l j))) (by rw [set_other _ _ _ _ _ (by decide)]; exact h1)]
  · rw [set_other _ _ _ _ _ (by decide), set_other _ _ _ _ _ (by decide)]; exact h2

set_option maxHeartbeats 2000000 in
set_option maxRecDepth 100000 in
theorem rTok_sign (s : ByteArray) (k : Nat) (w : World) (hs : s.size ≤ 281474976710656) (hk : k < s.size) (h1 : M.cls s[k] ≠ 1) (h2 : M.cls s[k] ≠ 2) :
    Calls Tryz.prog 32 #[.string s, .int .i64 k] w fun e w' => e = .returned (lxV (rTok s.data.toList k)) ∧ Below w.heap.size w w' := by
  have htx : M.tokText s.data.toList k = M.sign (s.data.toList.drop k) := by
    unfold M.tokText; rw [getD_at s k hk]; split
    · exact absurd ‹_› h1
    · exact absurd ‹_› h2
    · rfl
  have hkd : M.tokKind s.data.toList k = M.signKind (M.sign (s.data.toList.drop k)) := by
    unfold M.tokKind; rw [getD_at s k hk, htx]; split
    · exact absurd ‹_› h1
    · exact absurd ‹_› h2
    · rfl
  have hr : rTok s.data.toList k = ⟨M.signKind (M.bestK (s.data.toList.drop k) 22), M.str (M.bestK (s.data.toList.drop k) 22), k⟩ := by
    unfold rTok; rw [hkd, htx, M.bestK_all]
  have e1 : decide (M.cls s[k] = 1) = false := decide_eq_false h1
  have e2 : decide (M.cls s[k] = 2) = false := decide_eq_false h2
  have HR := Lib.hid hr
  have E1 := Lib.hid e1
  have E2 := Lib.hid e2
  clear htx hkd hr e1 e2 h1 h2
  go_enter Tryz.func32, Tryz.ntmps32
  go_wp2_with fail
  refine (isLetter_any s[k] _).mono ?_
  rintro e w1 ⟨rfl, rfl⟩
  rw [E1.out]
  go_wp2_with fail
  refine (isDigit_any s[k] _).mono ?_
  rintro e w1 ⟨rfl, rfl⟩
  rw [E2.out]
  go_wp2_with fail
  refine (signs_any _).mono ?_
  rintro e w1 ⟨rfl, hsg, hB⟩
  obtain ⟨hr, hx, hzw, hBw⟩ := tok_boxes hB
  obtain ⟨⟨q0, q1, q2⟩, f0, f1, f2⟩ := lx_heap hr
  obtain ⟨⟨p0, p1, p2⟩, g0, g1, g2⟩ := lx_heap hx
  have HQ := Lib.hid hr
  have HBW := Lib.hid hBw
  have HSG := Lib.hid hsg
  have I0 : SgI w1 (w.heap.size + 1) (s.data.toList.drop k) k 0 w1 := ⟨p0, p1, p2, g0, g1, World.grownBy.refl _ _⟩
  have HI0 := Lib.hid I0
  clear hr hx hB hBw hsg p0 p1 p2 g0 g1 g2 q0 q1 q2 f0 f1 f2 I0
  go_wp2_with fail
  go_loopw [7] (fun i wr => ∃ j : Nat, j ≤ 22 ∧ i = .int .i64 j ∧ SgI w1 (w.heap.size + 1) (s.data.toList.drop k) k j wr) (fun i _ => 22 - (intOf i).toNat)
  case atStart => exact ⟨0, by omega, rfl, HI0.out⟩
  case round =>
    rename_i wr
    obtain ⟨j, hj, rfl, hI⟩ := hrel
    obtain ⟨c0, c1, c2, z0, z1, hg⟩ := hI
    by_cases hlt : j < 22
    · have hjl : j < M.signs.length := by rw [sg_len]; exact hlt
      have hc := hg.cell (HSG.out.2 j hjl) (by simp)
      have hsucc := M.bestK_succ (s.data.toList.drop k) j hjl
      have hgl := M.sg_short j hjl
      have hbl := M.bestK_len (s.data.toList.drop k) j
      obtain ⟨g, hgg⟩ : ∃ g, M.signs[j] = g := ⟨_, rfl⟩
      obtain ⟨b, hbb⟩ : ∃ b, M.bestK (s.data.toList.drop k) j = b := ⟨_, rfl⟩
      rw [hgg] at hc hsucc hgl
      rw [hbb] at c0 c1 hsucc hbl
      have hpre := sg_pre s k g
      have hpno := sg_pre_no s k g (by omega)
      obtain ⟨G, hG⟩ : ∃ G, M.str g = G := ⟨_, rfl⟩
      obtain ⟨B, hBb⟩ : ∃ B, M.str b = B := ⟨_, rfl⟩
      have hGz : G.size = g.length := by rw [← hG, M.str_size]
      have hBz : B.size = b.length := by rw [← hBb, M.str_size]
      have hGl : G.data.toList = g := by rw [← hG, M.str_list]
      rw [hG] at hc
      rw [hBb] at c1
      have hc2 : wr.cell? ⟨w.heap.size + 1 + 1, j, none⟩ = some (.string G) := by simpa using hc
      clear hc
      have hbl' : B.size ≤ 2 := by omega
      have hgl' : G.size ≤ 2 := by omega
      have hw1 : IntKind.i64.wrap ((k : Int) + (G.size : Int)) = (k : Int) + (G.size : Int) := IntWalk.i64_in _ (by omega)
      have hw2 : ((k : Int) + (G.size : Int)).toNat = k + G.size := by omega
      have hw3 : (0 : Int) ≤ (k : Int) + (G.size : Int) := by omega
      have HW1 := Lib.hid hw1
      have HW2 := Lib.hid hw2
      clear hw1 hw2
      have hstep : ∀ V, SgI w1 (w.heap.size + 1) (s.data.toList.drop k) k j V → ¬ (b.length < g.length ∧ g.isPrefixOf (s.data.toList.drop k) = true) → SgI w1 (w.heap.size + 1) (s.data.toList.drop k) k (j + 1) V := by
        intro V hV hno
        have e : M.bestK (s.data.toList.drop k) (j + 1) = M.bestK (s.data.toList.drop k) j := by rw [hsucc, if_neg hno, hbb]
        unfold SgI at hV ⊢
        rw [e]; exact hV
      have hI2 : SgI w1 (w.heap.size + 1) (s.data.toList.drop k) k j wr := ⟨by rw [hbb]; exact c0, by rw [hbb, hBb]; exact c1, c2, z0, z1, hg⟩
      have HG := Lib.hid hgg
      have HSTEP := Lib.hid hstep
      have HSUCC := Lib.hid hsucc
      have HI2 := Lib.hid hI2
      have HGS := Lib.hid hG
      have HGROW := Lib.hid hg
      have hblk : w.heap.size + 1 < wr.heap.size := by have := hg.size; omega
      by_cases hl : B.size < G.size
      · have d1 : decide (B.size < G.size) = true := decide_eq_true hl
        by_cases hf : k + G.size ≤ s.size
        · have d2 : decide ((k : Int) + (G.size : Int) ≤ (s.size : Int)) = true := decide_eq_true (by omega)
          by_cases he : g.isPrefixOf (s.data.toList.drop k) = true
          · have d3 : ((s.extract k (k + G.size)).toList == G.toList) = true := by rw [str_ne, hGz, hGl]; exact decide_eq_true (hpre.2 he)
            have hb1 : M.bestK (s.data.toList.drop k) (j + 1) = g := by rw [hsucc, if_pos ⟨by omega, he⟩]
            have hg0 : g ≠ [] := by
              intro q
              have h0 : g.length = 0 := by rw [q]; rfl
              omega
            have hsk : M.signKind g = 4 := by unfold M.signKind; rw [if_neg hg0]
            have HB1 := Lib.hid hb1
            have HSK := Lib.hid hsk
            clear hgg hsucc hpre hpno hG hGl hstep hI2 hgl hbl hbb hBb hGz hBz hg he hb1 hsk hg0
            have hw1 := HW1.out
            have hw2 := HW2.out
            go_wp2_with fail
            go_quiet (fail)
            clear hw1 hw2
            go_wp2_with fail
            go_region
            go_wp2_with fail
            have hset := HI2.out.set g HB1.out HSK.out
            rw [HGS.out] at hset
            exact ⟨⟨j + 1, by omega, by simp, hset _⟩, by simp [intOf]; omega⟩
          · have d3 : ((s.extract k (k + G.size)).toList == G.toList) = false := by rw [str_ne, hGz, hGl]; exact decide_eq_false (fun h => he (hpre.1 h))
            have HNO := Lib.hid (HSTEP.out _ HI2.out (fun h => he h.2))
            clear hgg hsucc hpre hpno hG hGl hstep hI2 hgl hbl hbb hBb hGz hBz hg he
            have hw1 := HW1.out
            have hw2 := HW2.out
            go_wp2_with fail
            go_quiet (fail)
            clear hw1 hw2
            go_wp2_with fail
            exact ⟨⟨j + 1, by omega, by simp, HNO.out.drewN _⟩, by simp [intOf]; omega⟩
        · have d2 : decide ((k : Int) + (G.size : Int) ≤ (s.size : Int)) = false := decide_eq_false (by omega)
          have hpn := hpno (by omega)
          have HNO := Lib.hid (HSTEP.out _ HI2.out (fun h => by rw [hpn] at h; exact absurd h.2 (by decide)))
          clear hgg hsucc hpre hpno hG hGl hstep hI2 hgl hbl hbb hBb hGz hBz hg hpn
          have hw1 := HW1.out
          have hw2 := HW2.out
          go_wp2_with fail
          go_quiet (fail)
          clear hw1 hw2
          go_wp2_with fail
          exact ⟨⟨j + 1, by omega, by simp, HNO.out.drewN _⟩, by simp [intOf]; omega⟩
      · have d1 : decide (B.size < G.size) = false := decide_eq_false hl
        have HNO := Lib.hid (HSTEP.out _ HI2.out (fun h => hl (by omega)))
        clear hgg hsucc hpre hpno hG hGl hstep hI2 hgl hbl hbb hBb hGz hBz hg
        have hw1 := HW1.out
        have hw2 := HW2.out
        go_wp2_with fail
        go_quiet (fail)
        clear hw1 hw2
        go_wp2_with fail
        exact ⟨⟨j + 1, by omega, by simp, HNO.out.drewN _⟩, by simp [intOf]; omega⟩
    · obtain rfl : j = 22 := by omega
      have hr := hg.block (w.heap.size) (by omega) (by simp)
      rw [HQ.out] at hr
      obtain ⟨⟨q0, q1, q2⟩, f0, f1, f2⟩ := lx_heap hr
      have hgb : Below w.heap.size w wr := HBW.out.grown hg HBW.out.size (fun j e => by cases e; omega)
      have hz : w.heap.size < wr.heap.size := by have := hg.size; omega
      have HGB := Lib.hid hgb
      clear hg hgb hr
      obtain ⟨kk, hkk⟩ : ∃ kk, M.signKind (M.bestK (s.data.toList.drop k) 22) = kk := ⟨_, rfl⟩
      obtain ⟨tt, htt⟩ : ∃ tt, M.str (M.bestK (s.data.toList.drop k) 22) = tt := ⟨_, rfl⟩
      rw [hkk] at c0 HR
      rw [htt] at c1 HR
      clear hkk htt
      go_wp2_with fail
      refine bodyPost_ret (v := lxV ⟨kk, tt, k⟩) (by simp [results, Tryz.results32, go_sem, q0, q1, q2]) rfl ⟨by rw [HR.out], below3 HGB.out _ (Nat.le_refl _) _ _ _⟩

/-- The document's Token. -/
theorem rTok_any (s : ByteArray) (k : Nat) (w : World) (hs : s.size ≤ 281474976710656) (hk : k < s.size) :
    Calls Tryz.prog 32 #[.string s, .int .i64 k] w fun e w' => e = .returned (lxV (rTok s.data.toList k)) ∧ Below w.heap.size w w' := by
  by_cases h1 : M.cls s[k] = 1
  · exact rTok_word s k w hs hk h1
  · by_cases h2 : M.cls s[k] = 2
    · exact rTok_num s k w hs hk h2
    · exact rTok_sign s k w hs hk h1 h2
end Go.Proofs.YtcaanpifkcaldaaGreatDoor
