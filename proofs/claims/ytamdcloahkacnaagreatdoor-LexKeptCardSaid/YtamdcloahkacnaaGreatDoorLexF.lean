/- DERIVED. Contracts of layer 1: the longest sign; the token that begins at a place. -/
import Derived.Test.YtamdcloahkacnaaGreatDoorLexE
import Derived.Shelf.Abstract
namespace Go.Proofs.YtamdcloahkacnaaGreatDoor
open Go.RowKit Go.WideMaps Go.Maps

theorem enters_sign1 : ∀ args w, (callFunc 71 args).run Tryz.prog w = .ok (.enter 71 args) w := enters_of Tryz.func71 (by kernel_rfl) rfl

set_option maxHeartbeats 400000 in
set_option maxRecDepth 100000 in
theorem sign1_any (i : Nat) (s g : ByteArray) (b : Nat) (w : World) (hc : w.cell? ⟨b, 0, none⟩ = some (.string s)) :
    Calls Tryz.prog 71 #[.int .i64 i, .string g, .pointer (some ⟨b, 0, none⟩)] w fun e w' => e = .returned (.bool (!Lib.hasPrefix s.data.toList g.data.toList)) ∧ w = w' := by
  go_enter Tryz.func71, Tryz.ntmps71
  go_wp2_with fail
  refine (Tryz.strings_HasPrefix s g _).mono ?_
  rintro e w1 ⟨rfl, rfl⟩
  go_wp2_with fail
  go_ret
  exact ⟨rfl, rfl⟩

set_option maxHeartbeats 400000 in
set_option maxRecDepth 100000 in
theorem sign_any (bm bs : Nat) (s : ByteArray) (w : World) (hr : RdAt w bm bs) :
    Calls Tryz.prog 63 #[rdV bm bs, .string s] w fun e w' => e = .returned (.string (M.str (M.sign s.data.toList))) ∧ Below w.heap.size w w' := by
  have hr2 : RdAt ((w.alloc (.cells #[.map (some bm), .slice (some ⟨bs, 0, none⟩) 22 22] 59)).alloc (.cells #[.string s] 9)) bm bs := hr.below (((Below.refl _ _).alloc (Nat.le_refl _) _).alloc (by simp) _)
  have HR := Lib.hid hr
  have HR2 := Lib.hid hr2
  clear hr hr2
  go_enter Tryz.func63, Tryz.ntmps63
  go_wp2_with fail
  refine (leading_str bs 71 #[.pointer (some ⟨w.heap.size + 1, 0, none⟩)] M.signs (fun _ g => !g.isPrefixOf s.data.toList) _ (by decide) HR2.out.signs enters_sign1 (fun i hi w1 hB1 => (sign1_any i s (M.str M.signs[i]) (w.heap.size + 1) w1 (by
    rw [hB1.cell (by simp), World.cell?_alloc_at _ _ _ _ (by simp)]; rfl)).mono (by rintro e w2 ⟨rfl, rfl⟩; exact ⟨rfl, Below.refl _ _⟩))).mono ?_
  rintro e w2 ⟨rfl, hB2⟩
  obtain ⟨k, hk⟩ : ∃ k, M.leadI (fun _ g => !g.isPrefixOf s.data.toList) 0 M.signs = k := ⟨_, rfl⟩
  have hle : k ≤ 22 := by rw [← hk]; exact M.leadI_le _ M.signs 0
  rw [hk]
  have HS := Lib.hid (M.sign_at _ k hk)
  clear hk
  obtain ⟨hcB, hfB⟩ := bcell hB2
  by_cases hlt : k < 22
  · have hck := (HR2.out.signs.below hB2).2 k hlt
    have hkk : ((k : Int) == 22) = false := by rw [beq_eq_false_iff_ne]; omega
    go_wp2_with fail
    go_ret
    refine ⟨ret_str (by rw [HS.out, List.getElem?_eq_getElem hlt]; rfl), ?_⟩
    exact (((Below.refl _ _).alloc (Nat.le_refl _) _).alloc (by simp) _).trans (hB2.mono (by simp; omega))
  · obtain rfl : k = 22 := by omega
    go_wp2_with fail
    go_ret
    refine ⟨ret_str (by rw [HS.out]; rfl), ?_⟩
    exact (((Below.refl _ _).alloc (Nat.le_refl _) _).alloc (by simp) _).trans (hB2.mono (by simp; omega))

end Go.Proofs.YtamdcloahkacnaaGreatDoor
