/- DERIVED. Contracts of layer 1: lists of tokens are cloned and reversed. -/
import Derived.Test.YtamdcloahkacnaaGreatDoorLexW
namespace Go.Proofs.YtamdcloahkacnaaGreatDoor
open Go.RowKit Go.WideMaps Go.Maps Go.Shelf

theorem revK_stepG {α : Type} (l : List α) (k m : Nat) (h : k + m + 1 = l.length) (hkm : k < m) : ∀ i, (hi : i < l.length) →
    (M.revK l (k + 1))[i]'(by rw [M.revK_len]; exact hi) = if i = m then l[k]'(by omega) else if i = k then l[m]'(by omega) else (M.revK l k)[i]'(by rw [M.revK_len]; exact hi) := by
  intro i hi
  rw [M.revK_at l (k + 1) i hi, M.revK_at l k i hi]
  by_cases e1 : i = m
  · subst e1
    rw [if_pos (by omega), if_pos rfl]
    have e : l.length - 1 - i = k := by omega
    simp only [e]
  · rw [if_neg e1]
    by_cases e2 : i = k
    · subst e2
      rw [if_pos (by omega), if_pos rfl]
      have e : l.length - 1 - i = m := by omega
      simp only [e]
    · rw [if_neg e2]
      by_cases e3 : i < k ∨ l.length - 1 - i < k
      · rw [if_pos (by omega), if_pos e3]
      · rw [if_neg (by omega), if_neg e3]
theorem revK_setG {α : Type} (l : List α) (k m : Nat) (h : k + m + 1 = l.length) (hkm : k < m) : M.revK l (k + 1) = ((M.revK l k).set k (l[m]'(by omega))).set m (l[k]'(by omega)) := by
  apply List.ext_getElem (by rw [List.length_set, List.length_set, M.revK_len, M.revK_len])
  intro i h1 h2
  rw [M.revK_len] at h1
  rw [revK_stepG l k m h hkm i h1, List.getElem_set, List.getElem_set]
  simp only [@eq_comm _ m i, @eq_comm _ k i]
theorem revK_midG {α : Type} (l : List α) (k i : Nat) (hi : i < l.length) (h1 : k ≤ i) (h2 : k ≤ l.length - 1 - i) : (M.revK l k)[i]'(by rw [M.revK_len]; exact hi) = l[i] := by
  rw [M.revK_at l k i hi, if_neg (by omega)]

/-- Tokens as they lie in a block, none of their cells frozen. -/
def LxRow (W : World) (b : Nat) (l : List M.Lx) : Prop := ∀ i, (h : i < l.length) →
  (W.cell? ⟨b, i * 3, none⟩ = some (.int .u8 l[i].kind) ∧ W.cell? ⟨b, i * 3 + 1, none⟩ = some (.string l[i].text) ∧ W.cell? ⟨b, i * 3 + 2, none⟩ = some (.int .i64 l[i].pos)) ∧
  (W.frozen? ⟨b, i * 3, none⟩ = false ∧ W.frozen? ⟨b, i * 3 + 1, none⟩ = false ∧ W.frozen? ⟨b, i * 3 + 2, none⟩ = false)
theorem set_other (W : World) (b i j : Nat) (v : Value) (h : i ≠ j) : (W.setCell ⟨b, i, none⟩ v).cell? ⟨b, j, none⟩ = W.cell? ⟨b, j, none⟩ :=
  World.cell?_setCell_other _ _ _ _ (by intro e; exact h (by cases e; rfl))
theorem set_same (W : World) (b i : Nat) (v u : Value) (h : W.cell? ⟨b, i, none⟩ = some u) : (W.setCell ⟨b, i, none⟩ v).cell? ⟨b, i, none⟩ = some v :=
  World.cell?_setCell_same' _ _ _ (by rw [h]; rfl)
theorem LxRow.upd {W : World} {b : Nat} {l : List M.Lx} (h : LxRow W b l) (k : Nat) (x : M.Lx) :
    LxRow (((W.setCell ⟨b, k * 3, none⟩ (.int .u8 x.kind)).setCell ⟨b, k * 3 + 1, none⟩ (.string x.text)).setCell ⟨b, k * 3 + 2, none⟩ (.int .i64 x.pos)) b (l.set k x) := by
  intro i hi
  rw [List.length_set] at hi
  obtain ⟨⟨c0, c1, c2⟩, f0, f1, f2⟩ := h i hi
  refine ⟨?_, by simp only [World.frozen?_setCell]; exact ⟨f0, f1, f2⟩⟩
  rw [List.getElem_set]
  by_cases e : k = i
  · subst e
    rw [if_pos rfl]
    refine ⟨?_, ?_, ?_⟩
    · rw [set_other _ _ _ _ _ (by omega), set_other _ _ _ _ _ (by omega)]; exact set_same _ _ _ _ _ c0
    · rw [set_other _ _ _ _ _ (by omega)]; exact set_same _ _ _ _ _ (by rw [set_other _ _ _ _ _ (by omega)]; exact c1)
    · exact set_same _ _ _ _ _ (by rw [set_other _ _ _ _ _ (by omega), set_other _ _ _ _ _ (by omega)]; exact c2)
  · rw [if_neg e]
    refine ⟨?_, ?_, ?_⟩
    · rw [set_other _ _ _ _ _ (by omega), set_other _ _ _ _ _ (by omega), set_other _ _ _ _ _ (by omega)]; exact c0
    · rw [set_other _ _ _ _ _ (by omega), set_other _ _ _ _ _ (by omega), set_other _ _ _ _ _ (by omega)]; exact c1
    · rw [set_other _ _ _ _ _ (by omega), set_other _ _ _ _ _ (by omega), set_other _ _ _ _ _ (by omega)]; exact c2

theorem grown_set3 (W : World) (b k : Nat) (x y z : Value) : W.grownBy (((W.setCell ⟨b, k * 3, none⟩ x).setCell ⟨b, k * 3 + 1, none⟩ y).setCell ⟨b, k * 3 + 2, none⟩ z) (some b) :=
  grown_trans (grown_trans (grown_set W b (k * 3) x) (grown_set _ b (k * 3 + 1) y)) (grown_set _ b (k * 3 + 2) z)

set_option maxHeartbeats 2000000 in
set_option maxRecDepth 100000 in
theorem reverse_lx (g c : Nat) (l : List M.Lx) (w : World) (hl : l.length ≤ 1000000) (hs : LxRow w g l) :
    Calls Tryz.prog 58 #[.slice (some ⟨g, 0, none⟩) l.length c] w fun e w' => e = .returned (.tuple #[]) ∧ LxRow w' g l.reverse ∧ w.grownBy w' (some g) := by
  have HS := Lib.hid hs
  clear hs
  go_enter Tryz.func58, Tryz.ntmps58
  go_wp2_with fail
  go_loopw [2, 3] (fun i j wr => ∃ (k : Nat) (q : Int), i = .int .i64 k ∧ j = .int .i64 q ∧ -1 ≤ q ∧ q ≤ 1000000 ∧ k ≤ 1000000 ∧ Hid (q + k + 1 = (l.length : Int)) ∧ Hid ((k : Int) ≤ q + 1) ∧ Hid (LxRow wr g (M.revK l k)) ∧ w.grownBy wr (some g)) (fun i j _ => (intOf j + 1 - intOf i).toNat)
  case atStart => exact ⟨0, (l.length : Int) - 1, rfl, rfl, by omega, by omega, by omega, Lib.hid (by omega), Lib.hid (by omega), Lib.hid (by rw [M.revK_zero]; exact HS.out), World.grownBy.refl _ _⟩
  case round =>
    rename_i wr
    obtain ⟨k, q, rfl, rfl, hq1, hq2, hk2, HE, HO, HR, hg⟩ := hrel
    by_cases hlt : (k : Int) < q
    · obtain ⟨m, rfl⟩ : ∃ m : Nat, q = m := ⟨q.toNat, by omega⟩
      have he := HE.out
      have hkm : k < m := by omega
      have hlk : k < l.length := by omega
      have hlm : m < l.length := by omega
      obtain ⟨⟨a0, a1, a2⟩, g0, g1, g2⟩ := HR.out k (by rw [M.revK_len]; exact hlk)
      obtain ⟨⟨b0, b1, b2⟩, g3, g4, g5⟩ := HR.out m (by rw [M.revK_len]; exact hlm)
      rw [revK_midG l k k hlk (Nat.le_refl _) (by omega)] at a0 a1 a2
      rw [revK_midG l k m hlm (by omega) (by omega)] at b0 b1 b2
      have hne : k ≠ m := by omega
      clear he
      go_wp2_with fail
      go_region
      have R2 := (HR.out.upd k l[m]).upd m l[k]
      rw [← revK_setG l k m (by have := HE.out; omega) hkm] at R2
      have hg2 := grown_trans hg (grown_set3 wr g k (.int .u8 l[m].kind) (.string l[m].text) (.int .i64 l[m].pos))
      have hg3 := grown_trans hg2 (grown_set3 _ g m (.int .u8 l[k].kind) (.string l[k].text) (.int .i64 l[k].pos))
      obtain ⟨V, hV⟩ : ∃ V, ((((((wr.setCell ⟨g, k * 3, none⟩ (.int .u8 l[m].kind)).setCell ⟨g, k * 3 + 1, none⟩ (.string l[m].text)).setCell ⟨g, k * 3 + 2, none⟩ (.int .i64 l[m].pos)).setCell ⟨g, m * 3, none⟩ (.int .u8 l[k].kind)).setCell ⟨g, m * 3 + 1, none⟩ (.string l[k].text)).setCell ⟨g, m * 3 + 2, none⟩ (.int .i64 l[k].pos)) = V := ⟨_, rfl⟩
      rw [hV] at R2 hg3 ⊢
      have R3 : LxRow V.drew g (M.revK l (k + 1)) := R2
      have hg4 : w.grownBy V.drew (some g) := grown_drew hg3
      have HR3 := Lib.hid R3
      have hEn := HE.out
      have HE2 : Hid ((m : Int) - 1 + ((k + 1 : Nat) : Int) + 1 = (l.length : Int)) := Lib.hid (by omega)
      clear hV R2 R3 hg2 hg3 a0 a1 a2 b0 b1 b2 g0 g1 g2 g3 g4 g5 hEn
      go_wp2_with fail
      go_roundw
      case rel => exact ⟨k + 1, (m : Int) - 1, by go_num, rfl, by omega, by omega, by omega, HE2, Lib.hid (by omega), HR3, hg4⟩
      case measure => simp [intOf]; omega
    · go_wp2_with fail
      go_end0
      have he := HE.out
      have ho := HO.out
      refine ⟨rfl, ?_, hg⟩
      rw [← M.revK_all l k (by omega)]
      exact HR.out


set_option maxHeartbeats 1000000 in
set_option maxRecDepth 100000 in
theorem reverse_lx_nil (a : Option Addr) (c : Nat) (w : World) :
    Calls Tryz.prog 58 #[.slice a 0 c] w fun e w' => e = .returned (.tuple #[]) ∧ w = w' := by
  go_enter Tryz.func58, Tryz.ntmps58
  go_wp2
  refine wp_loop_rounds 1 ?_
  rw [rounds_succ]
  go_wp2
  go_end0
  exact ⟨rfl, rfl⟩

set_option maxHeartbeats 1000000 in
set_option maxRecDepth 100000 in
theorem clone_lx (a : Option Addr) (c : Nat) (l : List M.Lx) (w : World) (hl : l.length ≤ 1000000) (hs : LxSl w a l) :
    Calls Tryz.prog 57 #[.slice a l.length c] w fun e w' => ∃ a' c', e = .returned (.slice a' l.length c') ∧ w'.ownsRow w.heap.size 42 3 (.slice a' l.length c') l.length (lxCells l) ∧ Below w.heap.size w w' := by
  cases a with
  | none =>
    have h0 : l = [] := by
      rcases hs with h | ⟨_, _, h, _⟩
      · exact h
      · cases h
    subst h0
    have hnil : ∀ W, (binOp .eql 22 (.slice none 0 c) (.slice none 0 0)).run Tryz.prog W = .ok (.bool true) W := fun W => Lib.run_eql_slice_nil W 22 42 none 0 c 0 0 Tryz.underlying22
    go_enter Tryz.func57, Tryz.ntmps57
    go_wp2_with fail
    go_ret
    exact ⟨none, 0, rfl, ⟨rfl, Or.inl ⟨rfl, rfl⟩⟩, Below.refl _ _⟩
  | some ad =>
    have hnil : ∀ W, (binOp .eql 22 (.slice (some ad) l.length c) (.slice none 0 0)).run Tryz.prog W = .ok (.bool false) W := fun W => Lib.run_eql_slice_nil W 22 42 (some ad) l.length c 0 0 Tryz.underlying22
    obtain ⟨i0, hi, hz0, hz1, hz2⟩ := info_parts lxInfo
    have hnew : ∀ (o : Obj) j u, (lxCells l)[j]? = some u → (w.alloc o).cell? (ad.add j) = some u := by
      intro o j u hj
      have hjl : j < l.length * 3 := by
        have := (List.getElem?_eq_some_iff.1 hj).1
        rwa [lxCells_len] at this
      obtain ⟨q, r, rfl, hr⟩ : ∃ q r, j = q * 3 + r ∧ r < 3 := ⟨j / 3, j % 3, by omega, by omega⟩
      have hq : q < l.length := by omega
      obtain ⟨b, off, e, hA⟩ := hs.at hq
      cases e
      have e1 : (⟨b, off, none⟩ : Addr).add (q * 3 + r) = ⟨b, off + (q * 3 + r), none⟩ := by simp [Addr.add]
      rw [e1, World.cell?_alloc_past _ _ _ (by exact hA.lt), ← hj]
      have hc := lxCells_at l q hq
      match r, hr with
      | 0, _ => exact (hA.c0 q hq).trans hc.1.symm
      | 1, _ => exact (hA.c1 q hq).trans hc.2.1.symm
      | 2, _ => exact (hA.c2 q hq).trans hc.2.2.symm
    have h1 : ∀ u ∈ lxCells l, u.oneCell' = true := fun u hu => by
      obtain ⟨x, _, hx⟩ := List.mem_flatMap.1 hu
      simp at hx
      rcases hx with rfl | rfl | rfl <;> rfl
    have hown0 : (w.alloc (.cells #[] 42)).ownsRow w.heap.size 42 3 (.slice (some ⟨w.heap.size, 0, none⟩) 0 0) 0 [] :=
      ⟨rfl, Or.inr ⟨w.heap.size, 0, #[], rfl, Nat.le_refl _, (MapKept.heap_alloc w _).1, Nat.le_refl _, by unfold maxLen; omega, rfl, rfl⟩⟩
    have HN := Lib.hid hnew
    have H1 := Lib.hid h1
    clear hnew h1 hs
    go_enter Tryz.func57, Tryz.ntmps57
    go_wp2_with (at_builtin; refine wpList_append_own _ rfl _ _ 22 rfl w.heap.size 42 i0 (.agg #[.int .u8 0, .string ⟨#[]⟩, .int .i64 0]) 3 32 Tryz.underlying22 hi hz0 hz1 hz2 rfl (by decide) _ _ _ rfl hown0 ad l.length c (lxCells l) rfl ?c0 ?c1 ?c2 ?c3 ?c4 ?c5 ?_)
    case c0 => exact lxCells_len l
    case c1 => exact HN.out _
    case c2 => exact H1.out
    case c3 => unfold maxLen; omega
    case c4 => omega
    case c5 => simp
    intro v' w3 hown3 hgrow _
    obtain ⟨bv, bc, rfl⟩ := own_slice hown3
    have hB : Below w.heap.size w w3 := (below1 w _).grown hgrow (by simp) (fun j hj => by cases hj; exact Nat.le_refl _)
    have R1 := Lib.hid hown3
    clear hown3 hgrow hown0
    go_wp2_with fail
    go_ret
    exact ⟨bv, bc, rfl, R1.out, hB⟩

theorem own_lxrow {w : World} {base : Nat} {g n c : Nat} {l : List M.Lx} (h : w.ownsRow base 42 3 (.slice (some ⟨g, 0, none⟩) n c) n (lxCells l)) (hn : n = l.length) : LxRow w g l ∧ base ≤ g ∧ g < w.heap.size := by
  rcases h.2 with ⟨h, _⟩ | ⟨g', cap, cur, e, hb, hg, hle, hm, hs, ht⟩
  · cases h
  · cases e
    refine ⟨fun i hi => ⟨?_, by simp [World.frozen?, hg]⟩, hb, ?_⟩
    · have hc := lxCells_at l i hi
      simp only [World.cell?, hg]
      rw [← ht, List.getElem?_take, List.getElem?_take, List.getElem?_take, if_pos (by omega), if_pos (by omega), if_pos (by omega)] at hc
      simpa using hc
    · rcases Nat.lt_or_ge g w.heap.size with h' | h'
      · exact h'
      · simp [Array.getElem?_eq_none h'] at hg
theorem lxRow_sl {w : World} {g : Nat} {l : List M.Lx} (h : LxRow w g l) (hg : g < w.heap.size) : LxSl w (some ⟨g, 0, none⟩) l :=
  Or.inr ⟨g, 0, rfl, hg, fun i hi => by rw [Nat.zero_add]; exact (h i hi).1.1, fun i hi => by rw [Nat.zero_add]; exact (h i hi).1.2.1, fun i hi => by rw [Nat.zero_add]; exact (h i hi).1.2.2⟩

set_option maxHeartbeats 1000000 in
set_option maxRecDepth 100000 in
theorem reversed_lx (a : Option Addr) (c : Nat) (l : List M.Lx) (w : World) (hl : l.length ≤ 1000000) (hs : LxSl w a l) :
    Calls Tryz.prog 39 #[.slice a l.length c] w fun e w' => ∃ a' c', e = .returned (.slice a' l.length c') ∧ LxSl w' a' l.reverse ∧ Below w.heap.size w w' := by
  go_enter Tryz.func39, Tryz.ntmps39
  go_wp2_with fail
  refine (clone_lx a c l w hl hs).mono ?_
  rintro e w1 ⟨a', c', rfl, hown, hB⟩
  cases hn : l with
  | nil =>
    subst hn
    clear hown hs
    go_wp2_with fail
    refine (reverse_lx_nil a' c' w1).mono ?_
    rintro e w2 ⟨rfl, rfl⟩
    go_wp2_with fail
    go_ret
    exact ⟨a', c', rfl, Or.inl rfl, hB⟩
  | cons x r =>
    rw [← hn]
    obtain ⟨g, rfl⟩ : ∃ g, a' = some ⟨g, 0, none⟩ := by
      rcases hown.2 with ⟨_, h0⟩ | ⟨g, _, _, e, _⟩
      · rw [hn] at h0; simp at h0
      · cases e; exact ⟨g, rfl⟩
    obtain ⟨hr, hb, hg⟩ := own_lxrow hown rfl
    have HR := Lib.hid hr
    have HN := Lib.hid hn
    clear hn hr hown hs
    go_wp2_with fail
    refine (reverse_lx g c' l w1 hl HR.out).mono ?_
    rintro e w2 ⟨rfl, hr2, hg2⟩
    have HR2 := Lib.hid hr2
    clear hr2
    have hz := hg2.size
    have hB2 := hB.grown hg2 hB.size (fun j e => by cases e; exact hb)
    clear hg2
    go_wp2_with fail
    go_ret
    exact ⟨some ⟨g, 0, none⟩, c', rfl, lxRow_sl HR2.out (by omega), hB2⟩

end Go.Proofs.YtamdcloahkacnaaGreatDoor
