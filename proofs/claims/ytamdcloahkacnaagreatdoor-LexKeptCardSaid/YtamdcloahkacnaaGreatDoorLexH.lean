/- DERIVED. Contracts of layer 1: the kind of a text; whether two tokens must be parted. -/
import Derived.Test.YtamdcloahkacnaaGreatDoorLexG
namespace Go.Proofs.YtamdcloahkacnaaGreatDoor
open Go.RowKit Go.WideMaps Go.Maps

namespace M
/-- The kind of the token that the whole of a text is, or 0. -/
def kindOf (t : List UInt8) : Int := if t = [] then 0 else match token t 0 with
  | some x => if x.text.data.toList = t then x.kind else 0
  | none => 0
/-- Whether a token is not read as it is if another one follows it at once. -/
def mustPart (a b : List UInt8) : Bool := match token (a ++ b) 0 with
  | some x => !decide (x.text.data.toList = a)
  | none => true
end M

theorem str_ne (a b : ByteArray) : (a.toList == b.toList) = decide (a.data.toList = b.data.toList) := by
  rw [ByteArray.toList_eq a, ByteArray.toList_eq b, Bool.eq_iff_iff]; simp

theorem below2 {w W w1 : World} (h1 : Below w.heap.size w W) (h2 : Below W.heap.size W w1) : Below w.heap.size w w1 := h1.trans (h2.mono h1.size)
theorem below1 (w : World) (o : Obj) : Below w.heap.size w (w.alloc o) := (Below.refl _ _).alloc (Nat.le_refl _) _
theorem belowA {w w1 : World} (h : Below w.heap.size w w1) (o : Obj) : Below w.heap.size w (w1.alloc o) := h.alloc h.size o

set_option maxHeartbeats 1000000 in
set_option maxRecDepth 100000 in
theorem kind_any (bm bs : Nat) (s : ByteArray) (w : World) (hr : RdAt w bm bs) (hw : Ready w) (hs : s.size ≤ 281474976710656) :
    Calls Tryz.prog 30 #[rdV bm bs, .string s] w fun e w' => e = .returned (.int .u8 (M.kindOf s.data.toList)) ∧ Below w.heap.size w w' := by
  have HR := Lib.hid hr
  have HW := Lib.hid hw
  clear hr hw
  by_cases h0 : s.data.toList = []
  · have h1 : s.toList = [] := by rw [ByteArray.toList_eq s]; exact h0
    have h2 : (s.toList.isEmpty) = true := by rw [h1]; rfl
    have H := Lib.hid h0
    clear h0
    go_enter Tryz.func30, Tryz.ntmps30
    go_wp2_with fail
    go_ret
    exact ⟨ret_int (by unfold M.kindOf; rw [if_pos H.out]), below1 _ _⟩
  · have h1 : s.toList.isEmpty = false := by rw [ByteArray.toList_eq s]; simp at h0 ⊢; exact h0
    have hp : 0 < s.size := by
      rw [← M.size_list]; exact List.length_pos_iff.2 h0
    cases ht : M.token s.data.toList 0 with
    | none =>
      have hk : M.kindOf s.data.toList = 0 := by unfold M.kindOf; rw [if_neg h0, ht]
      have HT := Lib.hid ht
      have HK := Lib.hid hk
      clear ht hk h0
      go_enter Tryz.func30, Tryz.ntmps30
      go_wp2_with fail
      refine (token_any bm bs s 0 _ (HR.out.below (below1 _ _)) (HW.out.below (below1 _ _)) hs hp).mono ?_
      rintro e w1 ⟨rfl, hB⟩
      rw [HT.out]
      unfold tokRes
      go_wp2_with fail
      go_ret
      exact ⟨ret_int HK.out.symm, belowA (below2 (below1 _ _) hB) _⟩
    | some x =>
      obtain ⟨c, t, p⟩ := x
      cases hq : (t.toList == s.toList)
      · have hk : M.kindOf s.data.toList = 0 := by
          rw [str_ne] at hq
          unfold M.kindOf; rw [if_neg h0, ht]; exact if_neg (by simpa using hq)
        have HT := Lib.hid ht
        have HK := Lib.hid hk
        clear ht hk h0
        go_enter Tryz.func30, Tryz.ntmps30
        go_wp2_with fail
        refine (token_any bm bs s 0 _ (HR.out.below (below1 _ _)) (HW.out.below (below1 _ _)) hs hp).mono ?_
        rintro e w1 ⟨rfl, hB⟩
        rw [HT.out]
        unfold tokRes
        go_wp2_with fail
        go_ret
        exact ⟨ret_int HK.out.symm, belowA (below2 (below1 _ _) hB) _⟩
      · have hk : M.kindOf s.data.toList = c := by
          rw [str_ne] at hq
          unfold M.kindOf; rw [if_neg h0, ht]; exact if_pos (by simpa using hq)
        have HT := Lib.hid ht
        have HK := Lib.hid hk
        clear ht hk h0
        go_enter Tryz.func30, Tryz.ntmps30
        go_wp2_with fail
        refine (token_any bm bs s 0 _ (HR.out.below (below1 _ _)) (HW.out.below (below1 _ _)) hs hp).mono ?_
        rintro e w1 ⟨rfl, hB⟩
        rw [HT.out]
        unfold tokRes
        go_wp2_with fail
        go_ret
        exact ⟨ret_int HK.out.symm, belowA (below2 (below1 _ _) hB) _⟩

set_option maxHeartbeats 1000000 in
set_option maxRecDepth 100000 in
theorem mustPart_any (bm bs : Nat) (a b : ByteArray) (w : World) (hr : RdAt w bm bs) (hw : Ready w) (hs : a.size + b.size ≤ 281474976710656) (hp : 0 < a.size) :
    Calls Tryz.prog 50 #[rdV bm bs, .string a, .string b] w fun e w' => e = .returned (.bool (M.mustPart a.data.toList b.data.toList)) ∧ Below w.heap.size w w' := by
  have HR := Lib.hid hr
  have HW := Lib.hid hw
  clear hr hw
  have hab : (a ++ b).data.toList = a.data.toList ++ b.data.toList := by rw [ByteArray.data_append]; simp
  have hsz : (a ++ b).size ≤ 281474976710656 := by rw [ByteArray.size_append]; exact hs
  have hpz : 0 < (a ++ b).size := by rw [ByteArray.size_append]; omega
  have HSZ := Lib.hid hsz
  have HPZ := Lib.hid hpz
  have HAB := Lib.hid hab
  clear hsz hpz hab
  cases ht : M.token (a.data.toList ++ b.data.toList) 0 with
  | none =>
    have hk : M.mustPart a.data.toList b.data.toList = true := by unfold M.mustPart; rw [ht]
    have HT := Lib.hid ht
    have HK := Lib.hid hk
    clear ht hk
    go_enter Tryz.func50, Tryz.ntmps50
    go_wp2_with fail
    refine (token_any bm bs (a ++ b) 0 _ (HR.out.below (below1 _ _)) (HW.out.below (below1 _ _)) HSZ.out HPZ.out).mono ?_
    rintro e w1 ⟨rfl, hB⟩
    rw [HAB.out, HT.out]
    unfold tokRes
    go_wp2_with fail
    go_ret
    exact ⟨ret_bool HK.out.symm, belowA (below2 (below1 _ _) hB) _⟩
  | some x =>
    obtain ⟨c, t, p⟩ := x
    have hk : M.mustPart a.data.toList b.data.toList = !(t.toList == a.toList) := by unfold M.mustPart; rw [ht, str_ne]
    have HT := Lib.hid ht
    have HK := Lib.hid hk
    clear ht hk
    go_enter Tryz.func50, Tryz.ntmps50
    go_wp2_with fail
    refine (token_any bm bs (a ++ b) 0 _ (HR.out.below (below1 _ _)) (HW.out.below (below1 _ _)) HSZ.out HPZ.out).mono ?_
    rintro e w1 ⟨rfl, hB⟩
    rw [HAB.out, HT.out]
    unfold tokRes
    go_wp2_with fail
    go_ret
    exact ⟨ret_bool HK.out.symm, belowA (below2 (below1 _ _) hB) _⟩

end Go.Proofs.YtamdcloahkacnaaGreatDoor
