/- DERIVED. Plain: one edit that does two. -/
import Derived.Test.YtglpbhfcjaonlaaDoorLexTd0
namespace Go.Proofs.YtglpbhfcjaonlaaDoor
namespace M
/-- The place before an edit of a place behind it. -/
def backP (x : Ed) (d at_ : Int) : Int := if x.from_ + x.put.size ≤ at_ then at_ - d else x.to_
def bothV (s : ByteArray) (x y : Ed) : Ed :=
  let t := after s x
  let u := after t y
  let to := backP x ((t.size : Int) - (s.size : Int)) y.to_
  ⟨min x.from_ y.from_, to, u.extract (min x.from_ y.from_).toNat ((u.size : Int) - ((s.size : Int) - to)).toNat⟩
def bothE (s : ByteArray) (x y : Ed) : Nat := if appE s x ≠ 0 then appE s x else appE (after s x) y
theorem two_core (l p q t u : List UInt8) (a b c d f g e : Nat) (ht : t = l.take a ++ p ++ l.drop b) (hu : u = t.take c ++ q ++ t.drop d) (hab : a ≤ b) (hbl : b ≤ l.length) (hcd : c ≤ d) (hdt : d ≤ t.length)
    (hf : f = min a c) (hg : g = if a + p.length ≤ d then d - (a + p.length) + b else b) (he : e = u.length - (l.length - g)) :
    f ≤ a ∧ b ≤ g ∧ g ≤ l.length ∧ f ≤ e ∧ e ≤ u.length ∧ l.length - g ≤ u.length ∧ l.take f ++ (u.drop f).take (e - f) ++ l.drop g = u := by
  have htl : t.length = a + p.length + (l.length - b) := by rw [ht]; simp only [List.length_append, List.length_take, List.length_drop]; omega
  have hul : u.length = c + q.length + (t.length - d) := by rw [hu]; simp only [List.length_append, List.length_take, List.length_drop]; omega
  have h1 : u.take f = l.take f := by
    rw [hu, List.append_assoc, List.take_append_of_le_length (by rw [List.length_take]; omega), List.take_take, ht, List.append_assoc, List.take_append_of_le_length (by rw [List.length_take]; omega), List.take_take]
    congr 1; omega
  have h2 : b ≤ g ∧ g ≤ l.length ∧ f ≤ e ∧ l.length - g ≤ u.length ∧ u.drop e = l.drop g := by
    by_cases hd : a + p.length ≤ d
    · rw [if_pos hd] at hg
      have hec : e = c + q.length := by omega
      refine ⟨by omega, by omega, by omega, by omega, ?_⟩
      rw [hec, hu, cut2 (by rw [List.length_take]; omega) rfl, ht, List.drop_append, List.drop_of_length_le (by simp only [List.length_append, List.length_take]; omega), List.nil_append, List.drop_drop]
      congr 1
      simp only [List.length_append, List.length_take]
      omega
    · rw [if_neg hd] at hg
      have h3 : t.drop d = (l.take a ++ p).drop d ++ l.drop b := by rw [ht, List.drop_append_of_le_length (by simp only [List.length_append, List.length_take]; omega)]
      refine ⟨by omega, by omega, by omega, by omega, ?_⟩
      rw [he, hul, hg]
      rw [hu, h3, ← List.append_assoc]
      exact List.drop_left' (by simp only [List.length_append, List.length_take, List.length_drop]; omega)
  obtain ⟨k1, k2, k3, k6, k4⟩ := h2
  refine ⟨by omega, k1, k2, k3, by omega, k6, ?_⟩
  rw [← h1, ← k4]
  exact cut4 u k3
/-- One edit that does two: it is one of the text, leads where both do, and spans the first. -/
theorem both_two (s : ByteArray) (x y : Ed) (h1 : appE s x = 0) (h2 : appE (after s x) y = 0) :
    isEdit s (bothV s x y) ∧ after s (bothV s x y) = after (after s x) y ∧ appE s (bothV s x y) = 0 ∧ (bothV s x y).from_ ≤ x.from_ ∧ x.to_ ≤ (bothV s x y).to_ ∧
    (∃ f e : Nat, min x.from_ y.from_ = f ∧ ((after (after s x) y).size : Int) - ((s.size : Int) - (bothV s x y).to_) = e ∧ f ≤ e ∧ e ≤ (after (after s x) y).size) := by
  obtain ⟨a1, hx, a2⟩ := appE_ok h1
  obtain ⟨_, hy, a3⟩ := appE_ok h2
  have ex := after_size s x hx
  have ey := after_size (after s x) y hy
  have lx := after_list s x
  have ly := after_list (after s x) y
  obtain ⟨xf, xt, xp⟩ := x
  obtain ⟨yf, yt, yp⟩ := y
  obtain ⟨i1, i2, i3⟩ := hx
  obtain ⟨j1, j2, j3⟩ := hy
  dsimp only at i1 i2 i3 j1 j2 j3 ex ey lx ly
  obtain ⟨a, rfl⟩ := Int.eq_ofNat_of_zero_le i1
  obtain ⟨b, rfl⟩ := Int.eq_ofNat_of_zero_le (Int.le_trans i1 i2)
  obtain ⟨c, rfl⟩ := Int.eq_ofNat_of_zero_le j1
  obtain ⟨d, rfl⟩ := Int.eq_ofNat_of_zero_le (Int.le_trans j1 j2)
  simp only [Int.toNat_natCast] at lx ly
  generalize ht : after s ⟨a, b, xp⟩ = t at *
  generalize hu : after t ⟨c, d, yp⟩ = u at *
  have hls := size_list s
  have hlt := size_list t
  have hlu := size_list u
  have hlp := size_list xp
  obtain ⟨g, hg⟩ : ∃ g, g = if a + xp.data.toList.length ≤ d then d - (a + xp.data.toList.length) + b else b := ⟨_, rfl⟩
  obtain ⟨e, he⟩ : ∃ e, e = u.data.toList.length - (s.data.toList.length - g) := ⟨_, rfl⟩
  obtain ⟨k0, k1, k2, k3, k4, k6, k5⟩ := two_core s.data.toList xp.data.toList yp.data.toList t.data.toList u.data.toList a b c d (min a c) g e lx ly (by omega) (by omega) (by omega) (by omega) rfl hg he
  have hto : backP ⟨a, b, xp⟩ ((t.size : Int) - (s.size : Int)) (d : Int) = (g : Int) := by
    unfold backP
    dsimp only
    by_cases hd : a + xp.size ≤ d
    · rw [if_pos (by omega)]; rw [hlp, if_pos hd] at hg; omega
    · rw [if_neg (by omega)]; rw [hlp, if_neg hd] at hg; omega
  have hmin : min (a : Int) (c : Int) = ((min a c : Nat) : Int) := by omega
  have hend : (u.size : Int) - ((s.size : Int) - (g : Int)) = (e : Int) := by omega
  have hz : bothV s ⟨a, b, xp⟩ ⟨c, d, yp⟩ = ⟨((min a c : Nat) : Int), g, u.extract (min a c) e⟩ := by
    unfold bothV
    dsimp only
    rw [ht, hu, hto, hmin, hend, Int.toNat_natCast, Int.toNat_natCast]
  rw [hz]
  have hi : isEdit s ⟨((min a c : Nat) : Int), g, u.extract (min a c) e⟩ := ⟨by dsimp only; omega, by dsimp only; omega, by dsimp only; omega⟩
  have haf : after s ⟨((min a c : Nat) : Int), g, u.extract (min a c) e⟩ = u := by
    apply bext
    rw [after_list]
    dsimp only
    rw [Int.toNat_natCast, Int.toNat_natCast, ext_list]
    exact k5
  refine ⟨hi, haf, ?_, by dsimp only; omega, by dsimp only; omega, ⟨min a c, e, hmin, hend, k3, by omega⟩⟩
  unfold appE
  rw [if_neg (by rw [a1]; simp), if_neg (by simpa using hi), haf]
  exact a3
end M
end Go.Proofs.YtglpbhfcjaonlaaDoor
