/- DERIVED. Contracts of the document's own Apart and Join. -/
import Derived.Test.YtcaanpifkcaldaaGreatDoorLexBg
import Derived.Test.YtcaanpifkcaldaaGreatDoorLexBi
namespace Go.Proofs.YtcaanpifkcaldaaGreatDoor
open Go.RowKit Go.WideMaps Go.Maps Go.Shelf

namespace M
/-- Whether two tokens need a gap, in the document's words. -/
def apart (a b : Lx) : Bool := !decide (tokText (a.text.data.toList ++ b.text.data.toList) 0 = a.text.data.toList) || !decide ((tokKind (a.text.data.toList ++ b.text.data.toList) 0 : Int) = a.kind)
theorem okLx_isTok (x : Lx) (h : okLx x = true) : IsTok x.text.data.toList x.kind := by
  unfold okLx at h
  rw [Bool.and_eq_true, Bool.not_eq_true', decide_eq_false_iff_not, decide_eq_true_eq] at h
  obtain ⟨h1, h2⟩ := h
  unfold kindOf at h2
  by_cases hn : x.text.data.toList = []
  · rw [if_pos hn] at h2; exact absurd h2.symm h1
  · rw [if_neg hn] at h2
    unfold token at h2
    by_cases hk : tokKind x.text.data.toList 0 = 0
    · rw [if_pos hk] at h2; exact absurd h2.symm h1
    · rw [if_neg hk] at h2
      dsimp only at h2
      rw [str_list] at h2
      by_cases ht : tokText x.text.data.toList 0 = x.text.data.toList
      · rw [if_pos ht] at h2; exact ⟨hn, ht, h2, h1⟩
      · rw [if_neg ht] at h2; exact absurd h2.symm h1
theorem apart_must (a b : Lx) (h : IsTok a.text.data.toList a.kind) : apart a b = mustPart a.text.data.toList b.text.data.toList := by
  unfold apart mustPart token
  by_cases ht : tokText (a.text.data.toList ++ b.text.data.toList) 0 = a.text.data.toList
  · have hk := tok_kind_eq _ _ h.1 ht h.2.1
    have h3 := h.2.2.1
    have h4 := h.2.2.2
    rw [if_neg (by omega)]
    dsimp only
    rw [str_list, ht, hk]
    simp [h3]
  · by_cases hk : tokKind (a.text.data.toList ++ b.text.data.toList) 0 = 0
    · rw [if_pos hk]; simp [ht]
    · rw [if_neg hk]; dsimp only; rw [str_list]; simp [ht]
end M

set_option maxHeartbeats 1000000 in
set_option maxRecDepth 100000 in
theorem apart_any (a b : M.Lx) (w : World) (h0 : 0 < a.text.size) (ha : a.text.size ≤ 1000000) (hb : b.text.size ≤ 1000000) :
    Calls Tryz.prog 37 #[lxV a, lxV b] w fun e w' => e = .returned (.bool (M.apart a b)) ∧ Below w.heap.size w w' := by
  obtain ⟨ak, at_, ap⟩ := a
  obtain ⟨bk, bt, bp⟩ := b
  dsimp only at h0 ha hb
  obtain ⟨U, hU⟩ : ∃ U, at_ ++ bt = U := ⟨_, rfl⟩
  have hUl : at_.data.toList ++ bt.data.toList = U.data.toList := by rw [← hU, ByteArray.data_append, Array.toList_append]
  have hUz : U.size = at_.size + bt.size := by rw [← hU, ByteArray.size_append]
  obtain ⟨kk, hkk⟩ : ∃ kk, M.tokKind U.data.toList 0 = kk := ⟨_, rfl⟩
  obtain ⟨tt, htt⟩ : ∃ tt, M.str (M.tokText U.data.toList 0) = tt := ⟨_, rfl⟩
  have hrt : rTok U.data.toList 0 = ⟨kk, tt, 0⟩ := by unfold rTok; rw [hkk, htt]; rfl
  have htl : (tt.toList == at_.toList) = decide (M.tokText U.data.toList 0 = at_.data.toList) := by rw [str_ne, ← htt, M.str_list]
  have hap : M.apart ⟨ak, at_, ap⟩ ⟨bk, bt, bp⟩ = (!(tt.toList == at_.toList) || !decide ((kk : Int) = ak)) := by
    unfold M.apart
    dsimp only
    rw [hUl, hkk, htl]
  have HAP := Lib.hid hap
  have HRT := Lib.hid hrt
  have HU := Lib.hid hU
  have hsz : ¬ 9223372036854775807 < at_.size + bt.size := by omega
  have hUs : U.size ≤ 281474976710656 := by omega
  have hUp : 0 < U.size := by omega
  clear hap hrt hU hUl hUz hkk htt
  cases ht : (tt.toList == at_.toList)
  · rw [ht] at HAP htl
    have hne : ¬ tt.toList = at_.toList := by simpa using ht
    have HTL := Lib.hid htl
    clear htl
    go_enter Tryz.func37, Tryz.ntmps37
    go_wp2_with fail
    rw [HU.out]
    refine (rTok0_any U _ hUs hUp).mono ?_
    rintro e w1 ⟨rfl, hB⟩
    rw [HRT.out]
    obtain ⟨hr, hx, hzw, hBw⟩ := tok_boxes hB
    obtain ⟨⟨q0, q1, q2⟩, f0, f1, f2⟩ := lx_heap hr
    obtain ⟨⟨p0, p1, p2⟩, g0, g1, g2⟩ := lx_heap hx
    have hz0 : w.heap.size < w1.heap.size := by omega
    have hz1 : w.heap.size + 1 < w1.heap.size := by omega
    clear hr hx hB
    go_wp2_with fail
    go_ret
    exact ⟨ret_bool (by rw [HAP.out]; rfl), belowA hBw _⟩
  · rw [ht] at HAP htl
    have hne : tt.toList = at_.toList := by simpa using ht
    have HTL := Lib.hid htl
    clear htl
    by_cases hk : (kk : Int) = ak
    · have k1 : ((kk : Int) == ak) = true := by rw [hk]; exact beq_self_eq_true _
      have k2 : ((kk : Int) != ak) = false := by rw [hk]; exact bne_self_eq_false _
      have hd : decide ((kk : Int) = ak) = true := decide_eq_true hk
      rw [hd] at HAP
      clear hd hk
      go_enter Tryz.func37, Tryz.ntmps37
      go_wp2_with fail
      rw [HU.out]
      refine (rTok0_any U _ hUs hUp).mono ?_
      rintro e w1 ⟨rfl, hB⟩
      rw [HRT.out]
      obtain ⟨hr, hx, hzw, hBw⟩ := tok_boxes hB
      obtain ⟨⟨q0, q1, q2⟩, f0, f1, f2⟩ := lx_heap hr
      obtain ⟨⟨p0, p1, p2⟩, g0, g1, g2⟩ := lx_heap hx
      have hz0 : w.heap.size < w1.heap.size := by omega
      have hz1 : w.heap.size + 1 < w1.heap.size := by omega
      clear hr hx hB
      go_wp2_with fail
      go_ret
      exact ⟨ret_bool (by rw [HAP.out]; rfl), belowA hBw _⟩
    · have k1 : ((kk : Int) == ak) = false := by rw [beq_eq_false_iff_ne]; exact hk
      have k2 : ((kk : Int) != ak) = true := by rw [bne_iff_ne]; exact hk
      have hd : decide ((kk : Int) = ak) = false := decide_eq_false hk
      rw [hd] at HAP
      clear hd hk
      go_enter Tryz.func37, Tryz.ntmps37
      go_wp2_with fail
      rw [HU.out]
      refine (rTok0_any U _ hUs hUp).mono ?_
      rintro e w1 ⟨rfl, hB⟩
      rw [HRT.out]
      obtain ⟨hr, hx, hzw, hBw⟩ := tok_boxes hB
      obtain ⟨⟨q0, q1, q2⟩, f0, f1, f2⟩ := lx_heap hr
      obtain ⟨⟨p0, p1, p2⟩, g0, g1, g2⟩ := lx_heap hx
      have hz0 : w.heap.size < w1.heap.size := by omega
      have hz1 : w.heap.size + 1 < w1.heap.size := by omega
      clear hr hx hB
      go_wp2_with fail
      go_ret
      exact ⟨ret_bool (by rw [HAP.out]; rfl), belowA hBw _⟩
end Go.Proofs.YtcaanpifkcaldaaGreatDoor
