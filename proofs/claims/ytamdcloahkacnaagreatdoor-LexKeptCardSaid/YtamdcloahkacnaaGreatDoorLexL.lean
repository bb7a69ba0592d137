/- DERIVED. Contracts of layer 1: Join, Kind. -/
import Derived.Test.YtamdcloahkacnaaGreatDoorLexK
namespace Go.Proofs.YtamdcloahkacnaaGreatDoor
open Go.RowKit Go.WideMaps Go.Maps

namespace M
def join (l : List Lx) : ByteArray × Nat := if 900 < l.length then (⟨#[]⟩, 5) else if l.all okLx = false then (⟨#[]⟩, 4) else if 2500 < (bareK l l.length).length then (⟨#[]⟩, 5) else (str (bareK l l.length), 0)
def kind (t : List UInt8) : Int × Nat := if kindOf t = 0 then (0, 4) else (kindOf t, 0)
theorem okLx_pos (x : Lx) (h : okLx x = true) : 0 < x.text.size := by
  unfold okLx at h
  simp only [Bool.and_eq_true, Bool.not_eq_true', decide_eq_false_iff_not, decide_eq_true_eq] at h
  rcases Nat.eq_zero_or_pos x.text.size with h0 | h0
  · rw [← size_list, List.length_eq_zero_iff] at h0
    rw [kindOf, if_pos h0] at h
    exact absurd h.2.symm h.1
  · exact h0
end M

set_option maxHeartbeats 1000000 in
set_option maxRecDepth 100000 in
theorem join_any (a : Option Addr) (c : Nat) (l : List M.Lx) (w : World) (hw : Ready w) (hs : LxSl w a l) (ht : ∀ x, x ∈ l → x.text.size ≤ 1000000) :
    Calls Tryz.prog 14 #[.slice a l.length c] w fun e w' => e = .returned (.tuple #[.string (M.join l).1, .int .i64 (M.join l).2]) ∧ Below w.heap.size w w' := by
  have HW := Lib.hid hw
  have HS := Lib.hid hs
  have HT := Lib.hid ht
  clear hw hs ht
  by_cases h1 : 900 < l.length
  · have hk : M.join l = (⟨#[]⟩, 5) := by unfold M.join; rw [if_pos h1]
    have HK := Lib.hid hk
    clear hk
    go_enter Tryz.func14, Tryz.ntmps14
    go_wp2_with fail
    go_ret2
    exact ⟨by rw [HK.out]; rfl, Below.refl _ _⟩
  · have hev : ∀ {w1 w2 : World} {bm bs : Nat}, Below w.heap.size w w1 → RdAt w1 bm bs → Below w1.heap.size (w1.alloc (.cells #[.map (some bm), .slice (some ⟨bs, 0, none⟩) 22 22] 59)) w2 → True := fun _ _ _ => trivial
    clear hev
    by_cases h2 : l.all M.okLx = false
    · have hk : M.join l = (⟨#[]⟩, 4) := by unfold M.join; rw [if_neg h1, if_pos h2]
      have HK := Lib.hid hk
      have H2 := Lib.hid h2
      clear hk h2
      go_enter Tryz.func14, Tryz.ntmps14
      go_wp2_with fail
      refine (newReader_any _).mono ?_
      rintro e w1 ⟨bm, bs, rfl, hr1, hB1⟩
      have HR := Lib.hid hr1
      clear hr1
      go_wp2_with fail
      refine (every_any a c 29 #[.pointer (some ⟨w1.heap.size, 0, none⟩)] l M.okLx _ (by omega) (HS.out.below (belowA hB1 _)) enters_Join1 (fun i hi w2 hB2 => join1_any l[i] w1.heap.size bm bs w2
        (by rw [hB2.cell (by simp), World.cell?_alloc_at _ _ _ _ rfl]; rfl) (by rw [hB2.cell (by simp), World.cell?_alloc_at _ _ _ _ rfl]; rfl)
        ((HR.out.below (below1 _ _)).below hB2) ((HW.out.below (belowA hB1 _)).below hB2) (by have := HT.out _ (List.getElem_mem hi); omega))).mono ?_
      rintro e w2 ⟨rfl, hB2⟩
      rw [H2.out]
      go_wp2_with fail
      go_ret2
      exact ⟨by rw [HK.out]; rfl, below2 (belowA hB1 _) hB2⟩
    · have h2' : l.all M.okLx = true := by simpa using h2
      have hpos : ∀ x, x ∈ l → 0 < x.text.size ∧ x.text.size ≤ 1000000 := fun x hx => ⟨M.okLx_pos x (List.all_eq_true.1 h2' x hx), HT.out x hx⟩
      have HP := Lib.hid hpos
      have hlen := M.bareK_len l HT.out l.length
      have hlen2 : l.length * 1000001 ≤ 900 * 1000001 := Nat.mul_le_mul_right _ (by omega)
      have hlen3 : (M.bareK l l.length).length ≤ 1000000000 := by omega
      clear hpos hlen hlen2
      by_cases h3 : 2500 < (M.bareK l l.length).length
      · have hk : M.join l = (⟨#[]⟩, 5) := by unfold M.join; rw [if_neg h1, if_neg h2, if_pos h3]
        have HK := Lib.hid hk
        have H2 := Lib.hid h2'
        have h3' : 2500 < (M.str (M.bareK l l.length)).size := by rw [M.str_size]; exact h3
        have H3 := Lib.hid h3'
        clear hk h2 h2' h3 h3'
        go_enter Tryz.func14, Tryz.ntmps14
        go_wp2_with fail
        refine (newReader_any _).mono ?_
        rintro e w1 ⟨bm, bs, rfl, hr1, hB1⟩
        have HR := Lib.hid hr1
        clear hr1
        go_wp2_with fail
        refine (every_any a c 29 #[.pointer (some ⟨w1.heap.size, 0, none⟩)] l M.okLx _ (by omega) (HS.out.below (belowA hB1 _)) enters_Join1 (fun i hi w2 hB2 => join1_any l[i] w1.heap.size bm bs w2
          (by rw [hB2.cell (by simp), World.cell?_alloc_at _ _ _ _ rfl]; rfl) (by rw [hB2.cell (by simp), World.cell?_alloc_at _ _ _ _ rfl]; rfl)
          ((HR.out.below (below1 _ _)).below hB2) ((HW.out.below (belowA hB1 _)).below hB2) (by have := HT.out _ (List.getElem_mem hi); omega))).mono ?_
        rintro e w2 ⟨rfl, hB2⟩
        rw [H2.out]
        obtain ⟨hcB, hfB⟩ := bcell hB2
        go_wp2_with fail
        refine (bare_any a c bm bs l _ ((HR.out.below (below1 _ _)).below hB2) ((HW.out.below (belowA hB1 _)).below hB2) (by omega) ((HS.out.below (belowA hB1 _)).below hB2) HP.out).mono ?_
        rintro e w3 ⟨rfl, hB3⟩
        obtain ⟨t, ht⟩ : ∃ t, M.str (M.bareK l l.length) = t := ⟨_, rfl⟩
        rw [ht] at H3 ⊢
        clear ht hlen3
        have h3 := H3.out
        go_wp2_with fail
        go_ret2
        exact ⟨by rw [HK.out]; rfl, below2 (below2 (belowA hB1 _) hB2) hB3⟩
      · have hk : M.join l = (M.str (M.bareK l l.length), 0) := by unfold M.join; rw [if_neg h1, if_neg h2, if_neg h3]
        have HK := Lib.hid hk
        have H2 := Lib.hid h2'
        have h3' : (M.str (M.bareK l l.length)).size ≤ 2500 := by rw [M.str_size]; omega
        have H3 := Lib.hid h3'
        clear hk h2 h2' h3 h3'
        go_enter Tryz.func14, Tryz.ntmps14
        go_wp2_with fail
        refine (newReader_any _).mono ?_
        rintro e w1 ⟨bm, bs, rfl, hr1, hB1⟩
        have HR := Lib.hid hr1
        clear hr1
        go_wp2_with fail
        refine (every_any a c 29 #[.pointer (some ⟨w1.heap.size, 0, none⟩)] l M.okLx _ (by omega) (HS.out.below (belowA hB1 _)) enters_Join1 (fun i hi w2 hB2 => join1_any l[i] w1.heap.size bm bs w2
          (by rw [hB2.cell (by simp), World.cell?_alloc_at _ _ _ _ rfl]; rfl) (by rw [hB2.cell (by simp), World.cell?_alloc_at _ _ _ _ rfl]; rfl)
          ((HR.out.below (below1 _ _)).below hB2) ((HW.out.below (belowA hB1 _)).below hB2) (by have := HT.out _ (List.getElem_mem hi); omega))).mono ?_
        rintro e w2 ⟨rfl, hB2⟩
        rw [H2.out]
        obtain ⟨hcB, hfB⟩ := bcell hB2
        go_wp2_with fail
        refine (bare_any a c bm bs l _ ((HR.out.below (below1 _ _)).below hB2) ((HW.out.below (belowA hB1 _)).below hB2) (by omega) ((HS.out.below (belowA hB1 _)).below hB2) HP.out).mono ?_
        rintro e w3 ⟨rfl, hB3⟩
        obtain ⟨t, ht⟩ : ∃ t, M.str (M.bareK l l.length) = t := ⟨_, rfl⟩
        rw [ht] at H3 HK ⊢
        clear ht hlen3
        have h3 := H3.out
        go_wp2_with fail
        go_ret2
        exact ⟨by rw [HK.out]; rfl, below2 (below2 (belowA hB1 _) hB2) hB3⟩

end Go.Proofs.YtamdcloahkacnaaGreatDoor
