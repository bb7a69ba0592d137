/- DERIVED. Plain: an edit that is taken back. -/
import Derived.Test.YtglpbhfcjaonlaaDoorLexTc
namespace Go.Proofs.YtglpbhfcjaonlaaDoor
namespace M
theorem bext {a b : ByteArray} (h : a.data.toList = b.data.toList) : a = b := by rw [← list_str a, ← list_str b, h]
theorem ext_list (s : ByteArray) (a b : Nat) : (s.extract a b).data.toList = (s.data.toList.drop a).take (b - a) := by
  rw [ByteArray.data_extract, Array.toList_extract, List.extract_eq_take_drop]
theorem after_list (s : ByteArray) (x : Ed) : (after s x).data.toList = s.data.toList.take x.from_.toNat ++ x.put.data.toList ++ s.data.toList.drop x.to_.toNat := by
  unfold after
  rw [ByteArray.data_append, ByteArray.data_append, Array.toList_append, Array.toList_append, ext_list, ext_list, List.drop_zero, Nat.sub_zero]
  congr 1
  exact List.take_of_length_le (by rw [List.length_drop, size_list]; exact Nat.le_refl _)
theorem cut1 {A P B : List UInt8} {a : Nat} (h : A.length = a) : (A ++ P ++ B).take a = A := by
  rw [List.append_assoc]; exact List.take_left' h
theorem cut2 {A P B : List UInt8} {a p : Nat} (h : A.length = a) (hp : P.length = p) : (A ++ P ++ B).drop (a + p) = B := List.drop_left' (by rw [List.length_append, h, hp])
theorem cut3 {A P B : List UInt8} {a p : Nat} (h : A.length = a) (hp : P.length = p) : ((A ++ P ++ B).drop a).take p = P := by
  rw [List.append_assoc, List.drop_left' h]; exact List.take_left' hp
theorem cut4 (l : List UInt8) {a b : Nat} (h : a ≤ b) : l.take a ++ (l.drop a).take (b - a) ++ l.drop b = l := by
  have e : l.drop b = (l.drop a).drop (b - a) := by rw [List.drop_drop]; congr 1; omega
  rw [e, List.append_assoc, List.take_append_drop, List.take_append_drop]
theorem undo_eq {s : ByteArray} {x : Ed} (h : appE s x = 0) : undo s x = ⟨x.from_, x.from_ + x.put.size, s.extract x.from_.toNat x.to_.toNat⟩ := by unfold undo; rw [if_pos h]
theorem undo_core (l p : List UInt8) (a b : Nat) (hab : a ≤ b) (hbl : b ≤ l.length) :
    (l.take a ++ p ++ l.drop b).take a ++ (l.drop a).take (b - a) ++ (l.take a ++ p ++ l.drop b).drop (a + p.length) = l ∧ ((l.take a ++ p ++ l.drop b).drop a).take (a + p.length - a) = p := by
  have ha : (l.take a).length = a := by rw [List.length_take]; omega
  refine ⟨by rw [cut1 ha, cut2 ha rfl, cut4 l hab], by rw [Nat.add_sub_cancel_left]; exact cut3 ha rfl⟩
/-- The edit back: the text, the edit, and its form. -/
theorem undo_back (s : ByteArray) (x : Ed) (h : appE s x = 0) :
    isEdit (after s x) (undo s x) ∧ after (after s x) (undo s x) = s ∧ appE (after s x) (undo s x) = 0 ∧ undo (after s x) (undo s x) = x := by
  obtain ⟨h1, hx, h2⟩ := appE_ok h
  have hau := after_size s x hx
  have hu := undo_eq h
  have hal := after_list s x
  obtain ⟨xf, xt, xp⟩ := x
  obtain ⟨i1, i2, i3⟩ := hx
  dsimp only at i1 i2 i3 hau hu hal
  obtain ⟨a, rfl⟩ := Int.eq_ofNat_of_zero_le i1
  obtain ⟨b, rfl⟩ := Int.eq_ofNat_of_zero_le (Int.le_trans i1 i2)
  rw [Int.toNat_natCast, Int.toNat_natCast] at hal hu
  have hab : a ≤ b := by omega
  have hbs : b ≤ s.data.toList.length := by rw [size_list]; omega
  obtain ⟨k1, k2⟩ := undo_core s.data.toList xp.data.toList a b hab hbs
  rw [← hal, size_list] at k1 k2
  generalize after s ⟨a, b, xp⟩ = t at *
  generalize undo s ⟨a, b, xp⟩ = y at *
  have hi : isEdit t y := by rw [hu]; exact ⟨i1, by show (a : Int) ≤ a + xp.size; omega, by show (a : Int) + xp.size ≤ _; omega⟩
  have e1 : ((a : Int) + (xp.size : Int)).toNat = a + xp.size := by omega
  have hs : after t y = s := by
    apply bext
    rw [after_list, hu]
    dsimp only
    rw [Int.toNat_natCast, e1, ext_list]
    exact k1
  have he : appE t y = 0 := by
    unfold appE
    rw [if_neg (by rw [h2]; simp), if_neg (by simpa using hi), hs]
    exact h1
  refine ⟨hi, hs, he, ?_⟩
  rw [undo_eq he, hu]
  dsimp only
  have e2 : (a : Int) + ((s.extract a b).size : Int) = (b : Int) := by rw [ByteArray.size_extract]; rw [size_list] at hbs; omega
  have e3 : t.extract ((a : Int)).toNat ((a : Int) + (xp.size : Int)).toNat = xp := by
    apply bext
    rw [Int.toNat_natCast, e1, ext_list]
    exact k2
  rw [e2, e3]
end M
end Go.Proofs.YtglpbhfcjaonlaaDoor
