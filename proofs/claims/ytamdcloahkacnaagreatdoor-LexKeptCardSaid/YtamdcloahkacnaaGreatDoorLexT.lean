/- DERIVED. Contracts of layer 1: lists of bytes are cloned and reversed; how many bytes are alike. -/
import Derived.Test.YtamdcloahkacnaaGreatDoorLexS
import Derived.RegionTactic
import Derived.ChangeAlike
import Derived.WalkSpells
namespace Go.Proofs.YtamdcloahkacnaaGreatDoor
open Go.RowKit Go.WideMaps Go.Maps Go.Shelf

namespace M
/-- A list with its first k and its last k elements turned round. -/
def revK {α : Type} (l : List α) (k : Nat) : List α := l.mapIdx fun i c => if i < k ∨ l.length - 1 - i < k then (l[l.length - 1 - i]?).getD c else c
theorem revK_len {α : Type} (l : List α) (k : Nat) : (revK l k).length = l.length := by simp [revK]
theorem revK_at {α : Type} (l : List α) (k i : Nat) (h : i < l.length) : (revK l k)[i]'(by rw [revK_len]; exact h) = if i < k ∨ l.length - 1 - i < k then l[l.length - 1 - i]'(by omega) else l[i] := by
  unfold revK
  rw [List.getElem_mapIdx]
  split
  · rw [List.getElem?_eq_getElem (by omega)]; rfl
  · rfl
theorem revK_zero {α : Type} (l : List α) : revK l 0 = l := by
  apply List.ext_getElem (revK_len l 0)
  intro i h1 h2
  rw [revK_at l 0 i h2, if_neg (by omega)]
theorem revK_all {α : Type} (l : List α) (k : Nat) (h : l.length ≤ k + k + 1) : revK l k = l.reverse := by
  apply List.ext_getElem (by rw [revK_len, List.length_reverse])
  intro i h1 h2
  rw [revK_len] at h1
  rw [revK_at l k i h1, List.getElem_reverse]
  split
  · rfl
  · have e : l.length - 1 - i = i := by omega
    simp only [e]
end M

set_option maxHeartbeats 1000000 in
set_option maxRecDepth 100000 in
theorem clone_by (a : Option Addr) (c : Nat) (l : List UInt8) (w : World) (hl : l.length ≤ 1000000) (hs : BySl w a l) :
    Calls Tryz.prog 55 #[.slice a l.length c] w fun e w' => ∃ a' c', e = .returned (.slice a' l.length c') ∧ w'.ownsRow w.heap.size 5 1 (.slice a' l.length c') l.length (Lib.byteCells l) ∧ Below w.heap.size w w' := by
  cases a with
  | none =>
    have h0 : l = [] := by
      rcases hs with h | ⟨_, _, h, _⟩
      · exact h
      · cases h
    subst h0
    have hnil : ∀ W, (binOp .eql 69 (.slice none 0 c) (.slice none 0 0)).run Tryz.prog W = .ok (.bool true) W := fun W => Lib.run_eql_slice_nil W 69 5 none 0 c 0 0 Tryz.underlying69
    go_enter Tryz.func55, Tryz.ntmps55
    go_wp2_with fail
    go_ret
    exact ⟨none, 0, rfl, ⟨rfl, Or.inl ⟨rfl, rfl⟩⟩, Below.refl _ _⟩
  | some ad =>
    have hnil : ∀ W, (binOp .eql 69 (.slice (some ad) l.length c) (.slice none 0 0)).run Tryz.prog W = .ok (.bool false) W := fun W => Lib.run_eql_slice_nil W 69 5 (some ad) l.length c 0 0 Tryz.underlying69
    obtain ⟨i0, hi, hz0, hz1, hz2⟩ := info_parts infoByte
    have hnew : ∀ (o : Obj) j u, (Lib.byteCells l)[j]? = some u → (w.alloc o).cell? (ad.add j) = some u := by
      intro o j u hj
      have hjl : j < l.length := by
        have := (List.getElem?_eq_some_iff.1 hj).1
        rwa [Lib.byteCells_length] at this
      obtain ⟨b, off, e, hb, hc⟩ := hs.at hjl
      cases e
      have e1 : (⟨b, off, none⟩ : Addr).add j = ⟨b, off + j, none⟩ := by simp [Addr.add]
      rw [e1, World.cell?_alloc_past _ _ _ (by exact hb), hc j hjl, ← hj]
      simp [Lib.byteCells, hjl]
    have h1 : ∀ u ∈ Lib.byteCells l, u.oneCell' = true := fun u hu => by
      obtain ⟨x, _, rfl⟩ := List.mem_map.1 hu
      rfl
    have hown0 : (w.alloc (.cells #[] 5)).ownsRow w.heap.size 5 1 (.slice (some ⟨w.heap.size, 0, none⟩) 0 0) 0 [] :=
      ⟨rfl, Or.inr ⟨w.heap.size, 0, #[], rfl, Nat.le_refl _, (MapKept.heap_alloc w _).1, Nat.le_refl _, by unfold maxLen; omega, rfl, rfl⟩⟩
    have HN := Lib.hid hnew
    have H1 := Lib.hid h1
    clear hnew h1 hs
    go_enter Tryz.func55, Tryz.ntmps55
    go_wp2_with (at_builtin; refine wpList_append_own _ rfl _ _ 69 rfl w.heap.size 5 i0 (.int .u8 0) 1 1 Tryz.underlying69 hi hz0 hz1 hz2 rfl (by decide) _ _ _ rfl hown0 ad l.length c (Lib.byteCells l) rfl ?c0 ?c1 ?c2 ?c3 ?c4 ?c5 ?_)
    case c0 => rw [Lib.byteCells_length, Nat.mul_one]
    case c1 => exact HN.out _
    case c2 => exact H1.out
    case c3 => unfold maxLen; omega
    case c4 => omega
    case c5 => simp
    intro v' w3 hown3 hgrow _
    obtain ⟨bv, bc, rfl⟩ := own_slice hown3
    have hB : Below w.heap.size w w3 := (below1 w _).grown hgrow (by simp) (fun j hj => by cases hj; exact Nat.le_refl _)
    have R1 := Lib.hid hown3
    clear hown3 hgrow hown0
    go_wp2_with fail
    go_ret
    exact ⟨bv, bc, rfl, R1.out, hB⟩

theorem revK_step (l : List UInt8) (k m : Nat) (h : k + m + 1 = l.length) (hkm : k < m) : ∀ i, (hi : i < l.length) →
    (M.revK l (k + 1))[i]'(by rw [M.revK_len]; exact hi) = if i = m then l[k]'(by omega) else if i = k then l[m]'(by omega) else (M.revK l k)[i]'(by rw [M.revK_len]; exact hi) := by
  intro i hi
  rw [M.revK_at l (k + 1) i hi, M.revK_at l k i hi]
  by_cases e1 : i = m
  · subst e1
    rw [if_pos (by omega), if_pos rfl]
    have e : l.length - 1 - i = k := by omega
    simp only [e]
  · rw [if_neg e1]
    by_cases e2 : i = k
    · subst e2
      rw [if_pos (by omega), if_pos rfl]
      have e : l.length - 1 - i = m := by omega
      simp only [e]
    · rw [if_neg e2]
      by_cases e3 : i < k ∨ l.length - 1 - i < k
      · rw [if_pos (by omega), if_pos e3]
      · rw [if_neg (by omega), if_neg e3]
theorem revK_set (l : List UInt8) (k m : Nat) (h : k + m + 1 = l.length) (hkm : k < m) : M.revK l (k + 1) = ((M.revK l k).set k (l[m]'(by omega))).set m (l[k]'(by omega)) := by
  apply List.ext_getElem (by rw [List.length_set, List.length_set, M.revK_len, M.revK_len])
  intro i h1 h2
  rw [M.revK_len] at h1
  rw [revK_step l k m h hkm i h1, List.getElem_set, List.getElem_set]
  simp only [@eq_comm _ m i, @eq_comm _ k i]
theorem ByRow.upd {W : World} {b : Nat} {l : List UInt8} (h : ByRow W b l) (k : Nat) (hk : k < l.length) (c : UInt8) : ByRow (W.setCell ⟨b, k, none⟩ (.int .u8 c.toNat)) b (l.set k c) :=
  h.set k hk c (List.length_set) (fun i hi => by
    rw [List.getElem_set]
    by_cases e : k = i
    · rw [if_pos e, if_pos e.symm]
    · rw [if_neg e, if_neg (fun x => e x.symm)])
theorem grown_drew {A B : World} {r : Option Nat} (h : A.grownBy B r) : A.grownBy B.drew r := ⟨h.os, h.tape, h.output, h.size, h.block⟩
theorem revK_mid (l : List UInt8) (k i : Nat) (hi : i < l.length) (h1 : k ≤ i) (h2 : k ≤ l.length - 1 - i) : (M.revK l k)[i]'(by rw [M.revK_len]; exact hi) = l[i] := by
  rw [M.revK_at l k i hi, if_neg (by omega)]

set_option maxHeartbeats 1000000 in
set_option maxRecDepth 100000 in
theorem reverse_by (g c : Nat) (l : List UInt8) (w : World) (hl : l.length ≤ 1000000) (hs : ByRow w g l) :
    Calls Tryz.prog 56 #[.slice (some ⟨g, 0, none⟩) l.length c] w fun e w' => e = .returned (.tuple #[]) ∧ ByRow w' g l.reverse ∧ w.grownBy w' (some g) := by
  have HS := Lib.hid hs
  clear hs
  go_enter Tryz.func56, Tryz.ntmps56
  go_wp2_with fail
  go_loopw [2, 3] (fun i j wr => ∃ (k : Nat) (q : Int), i = .int .i64 k ∧ j = .int .i64 q ∧ -1 ≤ q ∧ q ≤ 1000000 ∧ k ≤ 1000000 ∧ Hid (q + k + 1 = (l.length : Int)) ∧ Hid ((k : Int) ≤ q + 1) ∧ Hid (ByRow wr g (M.revK l k)) ∧ w.grownBy wr (some g)) (fun i j _ => (intOf j + 1 - intOf i).toNat)
  case atStart => exact ⟨0, (l.length : Int) - 1, rfl, rfl, by omega, by omega, by omega, Lib.hid (by omega), Lib.hid (by omega), Lib.hid (by rw [M.revK_zero]; exact HS.out), World.grownBy.refl _ _⟩
  case round =>
    rename_i wr
    obtain ⟨k, q, rfl, rfl, hq1, hq2, hk2, HE, HO, HR, hg⟩ := hrel
    by_cases hlt : (k : Int) < q
    · obtain ⟨m, rfl⟩ : ∃ m : Nat, q = m := ⟨q.toNat, by omega⟩
      have he := HE.out
      have hkm : k < m := by omega
      have hlk : k < l.length := by omega
      have hlm : m < l.length := by omega
      obtain ⟨vk, fk⟩ := HR.out k (by rw [M.revK_len]; exact hlk)
      obtain ⟨vm, fm⟩ := HR.out m (by rw [M.revK_len]; exact hlm)
      rw [revK_mid l k k hlk (Nat.le_refl _) (by omega)] at vk
      rw [revK_mid l k m hlm (by omega) (by omega)] at vm
      have hne : k ≠ m := by omega
      have hbk : (l[k].toNat : Int) < 256 := by have := l[k].toNat_lt; omega
      have hbm : (l[m].toNat : Int) < 256 := by have := l[m].toNat_lt; omega
      clear he
      go_wp2_with fail
      go_region
      have R2 := (HR.out.upd k (by rw [M.revK_len]; exact hlk) l[m]).upd m (by rw [List.length_set, M.revK_len]; exact hlm) l[k]
      rw [← revK_set l k m (by have := HE.out; omega) hkm] at R2
      have hg2 := grown_trans (grown_trans hg (grown_set wr g k (.int .u8 l[m].toNat))) (grown_set _ g m (.int .u8 l[k].toNat))
      obtain ⟨V, hV⟩ : ∃ V, (wr.setCell ⟨g, k, none⟩ (.int .u8 l[m].toNat)).setCell ⟨g, m, none⟩ (.int .u8 l[k].toNat) = V := ⟨_, rfl⟩
      rw [hV] at R2 hg2 ⊢
      have R3 : ByRow V.drew g (M.revK l (k + 1)) := R2
      have hg3 : w.grownBy V.drew (some g) := grown_drew hg2
      have HR3 := Lib.hid R3
      have hEn := HE.out
      have HE2 : Hid ((m : Int) - 1 + ((k + 1 : Nat) : Int) + 1 = (l.length : Int)) := Lib.hid (by omega)
      clear hV R2 R3 hg2 vk vm fk fm hEn
      go_wp2_with fail
      go_roundw
      case rel => exact ⟨k + 1, (m : Int) - 1, by go_num, rfl, by omega, by omega, by omega, HE2, Lib.hid (by omega), HR3, hg3⟩
      case measure => simp [intOf]; omega
    · go_wp2_with fail
      go_end0
      have he := HE.out
      have ho := HO.out
      refine ⟨rfl, ?_, hg⟩
      rw [← M.revK_all l k (by omega)]
      exact HR.out


theorem own_row {w : World} {base : Nat} {g n c : Nat} {l : List UInt8} (h : w.ownsRow base 5 1 (.slice (some ⟨g, 0, none⟩) n c) n (Lib.byteCells l)) : ByRow w g l ∧ base ≤ g ∧ g < w.heap.size := by
  rcases h.2 with ⟨h, _⟩ | ⟨g', cap, cur, e, hb, hg, hn, hm, hs, ht⟩
  · cases h
  · cases e
    refine ⟨fun i hi => ⟨?_, by simp [World.frozen?, hg]⟩, hb, ?_⟩
    · simp only [World.cell?, hg]
      have h2 : (Lib.byteCells l)[i]? = some (.int .u8 l[i].toNat) := by simp [Lib.byteCells, hi]
      have hl := h.1
      rw [Lib.byteCells_length] at hl
      rw [← ht, List.getElem?_take, if_pos (by omega)] at h2
      simpa using h2
    · rcases Nat.lt_or_ge g w.heap.size with h' | h'
      · exact h'
      · simp [Array.getElem?_eq_none h'] at hg
theorem byRow_sl {w : World} {g : Nat} {l : List UInt8} (h : ByRow w g l) (hg : g < w.heap.size) : BySl w (some ⟨g, 0, none⟩) l := Or.inr ⟨g, 0, rfl, hg, fun i hi => by rw [Nat.zero_add]; exact (h i hi).1⟩

set_option maxHeartbeats 1000000 in
set_option maxRecDepth 100000 in
theorem reverse_by_nil (a : Option Addr) (c : Nat) (w : World) :
    Calls Tryz.prog 56 #[.slice a 0 c] w fun e w' => e = .returned (.tuple #[]) ∧ w = w' := by
  go_enter Tryz.func56, Tryz.ntmps56
  go_wp2
  refine wp_loop_rounds 1 ?_
  rw [rounds_succ]
  go_wp2
  go_end0
  exact ⟨rfl, rfl⟩

set_option maxHeartbeats 1000000 in
set_option maxRecDepth 100000 in
theorem reversed_by (a : Option Addr) (c : Nat) (l : List UInt8) (w : World) (hl : l.length ≤ 1000000) (hs : BySl w a l) :
    Calls Tryz.prog 33 #[.slice a l.length c] w fun e w' => ∃ a' c', e = .returned (.slice a' l.length c') ∧ BySl w' a' l.reverse ∧ Below w.heap.size w w' := by
  go_enter Tryz.func33, Tryz.ntmps33
  go_wp2_with fail
  refine (clone_by a c l w hl hs).mono ?_
  rintro e w1 ⟨a', c', rfl, hown, hB⟩
  cases hn : l with
  | nil =>
    subst hn
    clear hown hs
    go_wp2_with fail
    refine (reverse_by_nil a' c' w1).mono ?_
    rintro e w2 ⟨rfl, rfl⟩
    go_wp2_with fail
    go_ret
    exact ⟨a', c', rfl, Or.inl rfl, hB⟩
  | cons x r =>
    rw [← hn]
    obtain ⟨g, rfl⟩ : ∃ g, a' = some ⟨g, 0, none⟩ := by
      rcases hown.2 with ⟨_, h0⟩ | ⟨g, _, _, e, _⟩
      · rw [hn] at h0; simp at h0
      · cases e; exact ⟨g, rfl⟩
    obtain ⟨hr, hb, hg⟩ := own_row hown
    have HR := Lib.hid hr
    have HN := Lib.hid hn
    clear hn hr hown hs
    go_wp2_with fail
    refine (reverse_by g c' l w1 hl HR.out).mono ?_
    rintro e w2 ⟨rfl, hr2, hg2⟩
    have HR2 := Lib.hid hr2
    clear hr2
    have hz := hg2.size
    have hB2 := hB.grown hg2 hB.size (fun j e => by cases e; exact hb)
    clear hg2
    go_wp2_with fail
    go_ret
    exact ⟨some ⟨g, 0, none⟩, c', rfl, byRow_sl HR2.out (by omega), hB2⟩

end Go.Proofs.YtamdcloahkacnaaGreatDoor
