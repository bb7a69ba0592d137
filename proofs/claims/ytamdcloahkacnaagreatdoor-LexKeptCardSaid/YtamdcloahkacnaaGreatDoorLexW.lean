/- DERIVED. Contracts of layer 1: an edit is done; by how much bytes move; a token is moved. -/
import Derived.Test.YtamdcloahkacnaaGreatDoorLexV
namespace Go.Proofs.YtamdcloahkacnaaGreatDoor
open Go.RowKit Go.WideMaps Go.Maps Go.Shelf

namespace M
def isEdit (s : ByteArray) (x : Ed) : Prop := 0 ≤ x.from_ ∧ x.from_ ≤ x.to_ ∧ x.to_ ≤ s.size
instance (s : ByteArray) (x : Ed) : Decidable (isEdit s x) := by unfold isEdit; exact inferInstance
/-- The text after an edit. -/
def after (s : ByteArray) (x : Ed) : ByteArray := s.extract 0 x.from_.toNat ++ x.put ++ s.extract x.to_.toNat s.size
end M
/-- An edit with the text before it and the text behind it. -/
abbrev edtV (x : M.Ed) (s t : ByteArray) : Value := .agg #[.int .i64 x.from_, .int .i64 x.to_, .string x.put, .string s, .string t]
def edtRes (s : ByteArray) (x : M.Ed) : Value := if M.isEdit s x then .tuple #[edtV x s (M.after s x), .bool true] else .tuple #[edtV ⟨0, 0, ⟨#[]⟩⟩ ⟨#[]⟩ ⟨#[]⟩, .bool false]

set_option maxHeartbeats 1000000 in
set_option maxRecDepth 100000 in
theorem edit_no (s : ByteArray) (x : M.Ed) (w : World) (h : ¬ M.isEdit s x) :
    Calls Tryz.prog 20 #[.string s, edV x] w fun e w' => e = .returned (edtRes s x) ∧ Below w.heap.size w w' := by
  have hres : edtRes s x = .tuple #[edtV ⟨0, 0, ⟨#[]⟩⟩ ⟨#[]⟩ ⟨#[]⟩, .bool false] := by unfold edtRes; rw [if_neg h]
  have HRES := Lib.hid hres
  clear hres
  obtain ⟨xf, xt, xp⟩ := x
  by_cases h1 : xf < 0
  · go_enter Tryz.func20, Tryz.ntmps20
    go_wp2_with fail
    refine bodyPost_ret (v := .tuple #[edtV ⟨0, 0, ⟨#[]⟩⟩ ⟨#[]⟩ ⟨#[]⟩, .bool false]) (by simp [results, Tryz.results20, go_sem]) rfl ⟨by rw [HRES.out], belowA (below1 _ _) _⟩
  · by_cases h2 : xt < xf
    · go_enter Tryz.func20, Tryz.ntmps20
      go_wp2_with fail
      refine bodyPost_ret (v := .tuple #[edtV ⟨0, 0, ⟨#[]⟩⟩ ⟨#[]⟩ ⟨#[]⟩, .bool false]) (by simp [results, Tryz.results20, go_sem]) rfl ⟨by rw [HRES.out], belowA (below1 _ _) _⟩
    · have h3 : (s.size : Int) < xt := by
        have : ¬ (0 ≤ xf ∧ xf ≤ xt ∧ xt ≤ (s.size : Int)) := h
        omega
      have h4 : 0 ≤ xf := by omega
      have h5 : xf ≤ xt := by omega
      have H := Lib.hid h
      clear h
      go_enter Tryz.func20, Tryz.ntmps20
      go_wp2_with fail
      refine bodyPost_ret (v := .tuple #[edtV ⟨0, 0, ⟨#[]⟩⟩ ⟨#[]⟩ ⟨#[]⟩, .bool false]) (by simp [results, Tryz.results20, go_sem]) rfl ⟨by rw [HRES.out], belowA (below1 _ _) _⟩

set_option maxHeartbeats 1000000 in
set_option maxRecDepth 100000 in
theorem edit_yes (s : ByteArray) (x : M.Ed) (w : World) (hs : s.size ≤ 140737488355328) (hp : x.put.size ≤ 140737488355328) (h : M.isEdit s x) :
    Calls Tryz.prog 20 #[.string s, edV x] w fun e w' => e = .returned (edtRes s x) ∧ Below w.heap.size w w' := by
  have hres : edtRes s x = .tuple #[edtV x s (M.after s x), .bool true] := by unfold edtRes; rw [if_pos h]
  have HRES := Lib.hid hres
  clear hres
  obtain ⟨xf, xt, xp⟩ := x
  obtain ⟨h1, h2, h3⟩ := h
  dsimp only at h1 h2 h3 hp
  obtain ⟨a, rfl⟩ := Int.eq_ofNat_of_zero_le h1
  obtain ⟨b, rfl⟩ := Int.eq_ofNat_of_zero_le (Int.le_trans h1 h2)
  have k1 : a ≤ s.size := by omega
  have k2 : b ≤ s.size := by omega
  have k3 : a ≤ b := by omega
  have k4 : ¬ 9223372036854775807 < a + xp.size := by omega
  have k5 : ¬ 9223372036854775807 < a + xp.size + (s.size - b) := by omega
  go_enter Tryz.func20, Tryz.ntmps20
  go_wp2_with fail
  refine still_tail 15 (by kernel_rfl) (by kernel_rfl) ?_
  simp only [List.take_succ_cons, List.take_zero, List.drop_succ_cons, List.drop_zero]
  repeat still_step
  refine wpStill_nil ?_
  go_wp2_with fail
  refine bodyPost_ret (v := .tuple #[edtV ⟨a, b, xp⟩ s (s.extract 0 a ++ xp ++ s.extract b s.size), .bool true]) (by simp [results, Tryz.results20, go_sem]) rfl ⟨by rw [HRES.out]; rfl, ?_⟩
  exact (belowA (below1 _ _) _).drew

theorem edit_any (s : ByteArray) (x : M.Ed) (w : World) (hs : s.size ≤ 140737488355328) (hp : x.put.size ≤ 140737488355328) :
    Calls Tryz.prog 20 #[.string s, edV x] w fun e w' => e = .returned (edtRes s x) ∧ Below w.heap.size w w' := by
  by_cases h : M.isEdit s x
  · exact edit_yes s x w hs hp h
  · exact edit_no s x w h

set_option maxHeartbeats 1000000 in
set_option maxRecDepth 100000 in
theorem shift_any (s t : ByteArray) (x : M.Ed) (w : World) (hs : s.size ≤ maxLen) (ht : t.size ≤ maxLen) :
    Calls Tryz.prog 41 #[edtV x s t] w fun e w' => e = .returned (.int .i64 ((t.size : Int) - (s.size : Int))) ∧ Below w.heap.size w w' := by
  unfold maxLen at hs ht
  go_enter Tryz.func41, Tryz.ntmps41
  go_wp2
  go_ret
  exact ⟨rfl, below1 _ _⟩

namespace M
def moved (x : Lx) (d : Int) : Lx := ⟨x.kind, x.text, x.pos + d⟩
end M

set_option maxHeartbeats 1000000 in
set_option maxRecDepth 100000 in
theorem moved_any (x : M.Lx) (d : Int) (w : World) (h1 : -1000000000 ≤ x.pos + d) (h2 : x.pos + d ≤ 1000000000) :
    Calls Tryz.prog 18 #[lxV x, .int .i64 d] w fun e w' => e = .returned (lxV (M.moved x d)) ∧ Below w.heap.size w w' := by
  go_enter Tryz.func18, Tryz.ntmps18
  go_wp2
  refine bodyPost_ret (v := lxV (M.moved x d)) (by simp [results, Tryz.results18, go_sem, M.moved]) rfl ⟨rfl, ?_⟩
  exact belowA (below1 _ _) _

end Go.Proofs.YtamdcloahkacnaaGreatDoor
