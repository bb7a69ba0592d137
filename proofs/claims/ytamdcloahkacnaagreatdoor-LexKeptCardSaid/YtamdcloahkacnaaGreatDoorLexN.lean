/- DERIVED. Contracts of layer 1: the tokens of a text without comments. -/
import Derived.Test.YtamdcloahkacnaaGreatDoorLexL
namespace Go.Proofs.YtamdcloahkacnaaGreatDoor
open Go.RowKit Go.WideMaps Go.Maps

namespace M
def tokensF : Nat → List UInt8 → Nat → List Lx → List Lx × Nat × Nat
  | 0, _, _, acc => (acc, 0, 0)
  | f + 1, s, k, acc => if k < s.length then match token s k with
      | none => ([], k, 4)
      | some x => if acc.length = 900 then ([], k, 5) else tokensF f s (behind [3] s (k + x.text.size)) (acc ++ [x])
    else (acc, 0, 0)
def tokens (s : List UInt8) : List Lx × Nat × Nat := tokensF (s.length + 1) s (behind [3] s 0) []

theorem sign_pre (s : List UInt8) (h : sign s ≠ []) : (sign s).isPrefixOf s = true := by
  unfold sign at h ⊢
  cases hf : signs.find? (fun g => g.isPrefixOf s) with
  | none => rw [hf] at h; exact absurd rfl h
  | some g => have := List.find?_some hf; exact this
theorem token_fits (s : List UInt8) (k : Nat) (x : Lx) (hk : k < s.length) (h : token s k = some x) : 1 ≤ x.text.size ∧ k + x.text.size ≤ s.length := by
  unfold token at h
  split at h
  · cases h
  · rename_i hkd
    cases h
    show 1 ≤ (str (tokText s k)).size ∧ k + (str (tokText s k)).size ≤ s.length
    rw [str_size]
    have hg : s.getD k 0 = s[k] := by rw [List.getD_eq_getElem?_getD, List.getElem?_eq_getElem hk]; rfl
    unfold tokKind at hkd
    rw [hg] at hkd
    unfold tokText at hkd ⊢
    rw [hg] at hkd ⊢
    split at hkd
    · rename_i h1
      have a1 := behind_gt [1, 2] s k hk (by rw [h1]; rfl)
      have a2 := behind_le [1, 2] s k (by omega)
      simp only [List.length_drop, List.length_take]
      omega
    · rename_i h1
      have a1 := behind_gt [2] s k hk (by rw [h1]; rfl)
      have a2 := behind_le [2] s k (by omega)
      simp only [List.length_drop, List.length_take]
      omega
    · rename_i n1 n2
      have hne : sign (s.drop k) ≠ [] := by
        intro e
        apply hkd
        split
        · rename_i h1; exact (n1 h1).elim
        · rename_i h1; exact (n2 h1).elim
        · rw [e]; rfl
      have hp := (List.isPrefixOf_iff_prefix.1 (sign_pre _ hne)).length_le
      have := List.length_pos_iff.2 hne
      rw [List.length_drop] at hp
      omega
end M

/-- The cells of a list of tokens. -/
def lxCells (l : List M.Lx) : List Value := l.flatMap fun x => [.int .u8 x.kind, .string x.text, .int .i64 x.pos]
theorem lxCells_len (l : List M.Lx) : (lxCells l).length = l.length * 3 := by
  induction l with
  | nil => rfl
  | cons x l ih => unfold lxCells at *; simp only [List.flatMap_cons, List.length_append, ih, List.length_cons, List.length_nil]; omega
theorem lxCells_at (l : List M.Lx) : ∀ i, (h : i < l.length) → (lxCells l)[i * 3]? = some (.int .u8 l[i].kind) ∧ (lxCells l)[i * 3 + 1]? = some (.string l[i].text) ∧ (lxCells l)[i * 3 + 2]? = some (.int .i64 l[i].pos) := by
  induction l with
  | nil => intro i h; simp at h
  | cons x l ih =>
    intro i h
    have e : lxCells (x :: l) = [.int .u8 x.kind, .string x.text, .int .i64 x.pos] ++ lxCells l := rfl
    rw [e]
    cases i with
    | zero => exact ⟨rfl, rfl, rfl⟩
    | succ i =>
      have := ih i (by simpa using h)
      rw [List.getElem?_append_right (by simp; omega), List.getElem?_append_right (by simp; omega), List.getElem?_append_right (by simp; omega)]
      have e1 : (i + 1) * 3 - [Value.int .u8 x.kind, .string x.text, .int .i64 x.pos].length = i * 3 := by simp; omega
      have e2 : (i + 1) * 3 + 1 - [Value.int .u8 x.kind, .string x.text, .int .i64 x.pos].length = i * 3 + 1 := by simp; omega
      have e3 : (i + 1) * 3 + 2 - [Value.int .u8 x.kind, .string x.text, .int .i64 x.pos].length = i * 3 + 2 := by simp; omega
      rw [e1, e2, e3]
      exact this
theorem lxCells_snoc (l : List M.Lx) (x : M.Lx) : lxCells (l ++ [x]) = lxCells l ++ [.int .u8 x.kind, .string x.text, .int .i64 x.pos] := by simp [lxCells]
/-- An owned row of tokens is a list of tokens in memory. -/
theorem own_lx {w : World} {base : Nat} {v : Value} {l : List M.Lx} (h : w.ownsRow base 42 3 v l.length (lxCells l)) : ∃ a c, v = .slice a l.length c ∧ l.length ≤ c ∧ (a = none → c = 0) ∧ LxSl w a l := by
  rcases h.2 with ⟨rfl, h0⟩ | ⟨g, cap, cur, rfl, hb, hg, hn, hm, hs, ht⟩
  · exact ⟨none, 0, by rw [h0], by omega, fun _ => rfl, Or.inl (List.length_eq_zero_iff.1 h0)⟩
  · refine ⟨_, _, rfl, hn, (fun h => by cases h), Or.inr ⟨g, 0, rfl, ?_, ?_, ?_, ?_⟩⟩
    · rcases Nat.lt_or_ge g w.heap.size with h' | h'
      · exact h'
      · simp [Array.getElem?_eq_none h'] at hg
    all_goals
      intro i hi
      have hc := lxCells_at l i hi
      simp only [World.cell?, hg, Nat.zero_add]
    · rw [← ht, List.getElem?_take] at hc
      have := hc.1
      rw [if_pos (by omega)] at this
      simpa using this
    · rw [← ht, List.getElem?_take, List.getElem?_take] at hc
      have := hc.2.1
      rw [if_pos (by omega)] at this
      simpa using this
    · rw [← ht, List.getElem?_take, List.getElem?_take, List.getElem?_take] at hc
      have := hc.2.2
      rw [if_pos (by omega)] at this
      simpa using this


theorem lxInfo : (Tryz.prog.info? 42).map (fun i => (i.zero, i.size, i.bytes)) = some (some (.agg #[.int .u8 0, .string ⟨#[]⟩, .int .i64 0]), 3, 32) := by kernel_rfl

theorem own_below {w w' : World} {base : Nat} {e : TypeId} {size : Nat} {v : Value} {n : Nat} {xs : List Value} (h : w.ownsRow base e size v n xs) (hb : Below w.heap.size w w') : w'.ownsRow base e size v n xs :=
  h.kept (row := none) ⟨hb.os, hb.tape, hb.output, hb.size, fun k hk _ => hb.block k hk⟩ (by cases hv : v.ownBlock <;> simp)
/-- What 'tokens' and Scan come to. -/
def TokPost (r : List M.Lx × Nat × Nat) (w : World) (e : Ending) (w' : World) : Prop :=
  ∃ a c, e = .returned (.tuple #[.slice a r.1.length c, .int .i64 r.2.1, .int .i64 r.2.2]) ∧ r.1.length ≤ c ∧ (a = none → c = 0) ∧ LxSl w' a r.1 ∧ Below w.heap.size w w'
theorem tokPost_none {w w' : World} {r : List M.Lx × Nat × Nat} (k e : Nat) (h : r = ([], k, e)) (hb : Below w.heap.size w w') : TokPost r w (.returned (.tuple #[.slice none 0 0, .int .i64 k, .int .i64 e])) w' :=
  ⟨none, 0, by rw [h]; rfl, by rw [h]; exact Nat.le_refl _, fun _ => rfl, by rw [h]; exact Or.inl rfl, hb⟩
theorem three_new (w : World) (x y z : Value) (t : TypeId) : ∀ j u, ([x, y, z])[j]? = some u → (w.alloc (.cells #[x, y, z] t)).cell? ((⟨w.heap.size, 0, none⟩ : Addr).add j) = some u := by
  intro j u hj
  have e : (⟨w.heap.size, 0, none⟩ : Addr).add j = ⟨w.heap.size, j, none⟩ := by simp [Addr.add]; omega
  rw [e, World.cell?_alloc_at _ _ _ _ rfl, ← hj]; simp
theorem own_slice {w : World} {base : Nat} {e : TypeId} {size : Nat} {v : Value} {n : Nat} {xs : List Value} (h : w.ownsRow base e size v n xs) : ∃ a c, v = .slice a n c := by
  rcases h.2 with ⟨rfl, h0⟩ | ⟨g, cap, cur, rfl, _⟩
  · exact ⟨none, 0, by rw [h0]⟩
  · exact ⟨_, _, rfl⟩

set_option maxHeartbeats 2000000 in
set_option maxRecDepth 100000 in
theorem tokens_any (bm bs : Nat) (s : ByteArray) (w : World) (hr : RdAt w bm bs) (hw : Ready w) (hs : s.size ≤ 1000000) :
    Calls Tryz.prog 25 #[rdV bm bs, .string s] w (TokPost (M.tokens s.data.toList) w) := by
  obtain ⟨i0, hi, hz0, hz1, hz2⟩ := info_parts lxInfo
  have HI0 := Lib.hid hi
  have HZ0 := Lib.hid hz0
  have HZ1 := Lib.hid hz1
  have HZ2 := Lib.hid hz2
  clear hi hz0 hz1 hz2
  have hsm : s.size ≤ maxLen := by unfold maxLen; omega
  have HR := Lib.hid hr
  have HW := Lib.hid hw
  clear hr hw
  go_enter Tryz.func25, Tryz.ntmps25
  go_wp2_with fail
  refine (behind_any s 0 _ [3] _ hsm (by omega) (by decide) (by have := cells_cls1 (w.alloc (.cells #[.map (some bm), .slice (some ⟨bs, 0, none⟩) 22 22] 59)) 3 82; exact fun i hi => by have h := this i hi; simpa using h)).mono ?_
  rintro e w1 ⟨rfl, rfl⟩
  obtain ⟨k0, hk0⟩ : ∃ k, M.behind [3] s.data.toList 0 = k := ⟨_, rfl⟩
  have hk0le : k0 ≤ s.size := by rw [← hk0, ← M.size_list]; exact M.behind_le _ _ _ (by omega)
  have htk : M.tokensF (s.size + 1) s.data.toList k0 [] = M.tokens s.data.toList := by unfold M.tokens; rw [hk0, M.size_list]
  rw [hk0]
  have HTK := Lib.hid htk
  clear hk0 htk
  go_wp2_with fail
  go_loopw [7, 8] (fun v i wr => ∃ (k f : Nat) (acc : List M.Lx), k ≤ s.size ∧ s.size < k + f ∧ acc.length ≤ 900 ∧ i = .int .i64 k ∧ Hid (M.tokensF f s.data.toList k acc = M.tokens s.data.toList) ∧ wr.ownsRow (w.heap.size + 1) 42 3 v acc.length (lxCells acc) ∧ Below (w.heap.size + 1) (w.alloc (.cells #[.map (some bm), .slice (some ⟨bs, 0, none⟩) 22 22] 59)) wr) (fun _ i _ => s.size - (intOf i).toNat)
  case atStart => exact ⟨k0, s.size + 1, [], hk0le, by omega, by simp, rfl, HTK, ⟨rfl, Or.inl ⟨rfl, rfl⟩⟩, (Below.refl _ _).alloc (by simp) _⟩
  case round =>
    rename_i wr
    obtain ⟨k, f, acc, hk, hf, h900, rfl, HF, hown, hB⟩ := hrel
    have hBw : Below w.heap.size w wr := below2 (below1 _ _) (by simpa using hB)
    have r0 : wr.cell? ⟨w.heap.size, 0, none⟩ = some (.map (some bm)) := by rw [hB.cell (by simp), World.cell?_alloc_at _ _ _ _ rfl]; rfl
    have r1 : wr.cell? ⟨w.heap.size, 1, none⟩ = some (.slice (some ⟨bs, 0, none⟩) 22 22) := by rw [hB.cell (by simp), World.cell?_alloc_at _ _ _ _ rfl]; rfl
    have hzr : w.heap.size + 1 ≤ wr.heap.size := by have := hB.size; simpa using this
    have HO := Lib.hid hown
    clear hown
    by_cases hlt : k < s.size
    · obtain ⟨f, rfl⟩ : ∃ g, f = g + 1 := ⟨f - 1, by omega⟩
      have hst : M.tokensF (f + 1) s.data.toList k acc = match M.token s.data.toList k with
          | none => ([], k, 4)
          | some x => if acc.length = 900 then ([], k, 5) else M.tokensF f s.data.toList (M.behind [3] s.data.toList (k + x.text.size)) (acc ++ [x]) := by
        rw [M.tokensF, if_pos (by rw [M.size_list]; exact hlt)]
      cases ht : M.token s.data.toList k with
      | none =>
        have hres : M.tokens s.data.toList = ([], k, 4) := by rw [← HF.out, hst, ht]
        have HT := Lib.hid ht
        have HRES := Lib.hid hres
        clear ht hst hres
        go_wp2_with fail
        refine (token_any bm bs s k _ (HR.out.below hBw) (HW.out.below hBw) (by omega) hlt).mono ?_
        rintro e w2 ⟨rfl, hB2⟩
        rw [HT.out]
        unfold tokRes
        go_wp2_with fail
        go_ret3
        exact tokPost_none k 4 HRES.out (belowA (below2 hBw hB2) _)
      | some x =>
        obtain ⟨hx1, hx2⟩ := M.token_fits _ _ _ (by rw [M.size_list]; exact hlt) ht
        rw [M.size_list] at hx2
        obtain ⟨c, t, p⟩ := x
        by_cases h9 : acc.length = 900
        · have hres : M.tokens s.data.toList = ([], k, 5) := by rw [← HF.out, hst, ht]; exact if_pos h9
          have HT := Lib.hid ht
          have HRES := Lib.hid hres
          have h9' : ((acc.length : Int) == 900) = true := by rw [h9]; rfl
          obtain ⟨av, ac, rfl⟩ := own_slice HO.out
          clear ht hst hres h9
          go_wp2_with fail
          refine (token_any bm bs s k _ (HR.out.below hBw) (HW.out.below hBw) (by omega) hlt).mono ?_
          rintro e w2 ⟨rfl, hB2⟩
          rw [HT.out]
          unfold tokRes
          go_wp2_with fail
          go_ret3
          exact tokPost_none k 5 HRES.out (belowA (below2 hBw hB2) _)
        · have hst2 : M.tokensF f s.data.toList (M.behind [3] s.data.toList (k + t.size)) (acc ++ [⟨c, t, p⟩]) = M.tokens s.data.toList := by rw [← HF.out, hst, ht]; exact (if_neg h9).symm
          have HT := Lib.hid ht
          have h9' : ((acc.length : Int) == 900) = false := by rw [beq_eq_false_iff_ne]; omega
          obtain ⟨av, ac, rfl⟩ := own_slice HO.out
          have HST2 := Lib.hid hst2
          clear ht hst hst2
          go_wp2_with fail
          refine (token_any bm bs s k _ (HR.out.below hBw) (HW.out.below hBw) (by omega) hlt).mono ?_
          rintro e w2 ⟨rfl, hB2⟩
          rw [HT.out]
          unfold tokRes
          have ho2 := (own_below HO.out hB2).alloc (.cells #[.int .u8 c, .string t, .int .i64 p] 42)
          have hi := HI0.out
          have hz0 := HZ0.out
          have hz1 := HZ1.out
          have hz2 := HZ2.out
          have hB2w : Below w.heap.size w (w2.alloc (.cells #[.int .u8 c, .string t, .int .i64 p] 42)) := belowA (below2 hBw hB2) _
          have HO2 := Lib.hid ho2
          clear ho2
          go_wp2_with (at_builtin; refine wpList_append_own _ rfl _ _ 22 rfl (w.heap.size + 1) 42 i0 (.agg #[.int .u8 0, .string ⟨#[]⟩, .int .i64 0]) 3 32 Tryz.underlying22 hi hz0 hz1 hz2 rfl (by decide) _ _ _ rfl (HO2.out.alloc _) ⟨w2.heap.size + 1, 0, none⟩ 1 1 [.int .u8 c, .string t, .int .i64 p] rfl rfl ?c1 ?c2 ?c3 ?c4 ?c5 ?_)
          case c1 =>
            have := three_new (w2.alloc (.cells #[.int .u8 c, .string t, .int .i64 p] 42)) (.int .u8 c) (.string t) (.int .i64 p) 42
            rw [show (w2.alloc (.cells #[.int .u8 c, .string t, .int .i64 p] 42)).heap.size = w2.heap.size + 1 from by simp] at this
            exact this
          case c2 => intro u hu; simp at hu; rcases hu with rfl | rfl | rfl <;> rfl
          case c3 => unfold maxLen; omega
          case c4 => omega
          case c5 => have := hB2.size; simp; omega
          intro v' w3 hown3 hgrow _
          have hne : ∀ j, (Value.slice av acc.length ac).ownBlock = some j → w.heap.size + 1 ≤ j ∧ j < w2.heap.size := fun j hj => (own_below HO.out hB2).lt j hj
          have x1 : w3.cell? ⟨w2.heap.size, 1, none⟩ = some (.string t) := by
            refine hgrow.cell ?_ (fun e => ?_)
            · rw [World.cell?_alloc_past _ _ _ (by simp), World.cell?_alloc_at _ _ _ _ rfl]; rfl
            · have := (hne _ e.symm).2; simp at this
          have hB3 : Below (w.heap.size + 1) (w.alloc (.cells #[.map (some bm), .slice (some ⟨bs, 0, none⟩) 22 22] 59)) w3 := by
            refine (((hB.trans (hB2.mono hzr)).alloc (by have := hB2.size; omega) _).alloc (by have := hB2.size; simp; omega) _).grown hgrow (by have := hB2.size; simp; omega) (fun j hj => (hne j hj).1)
          have hz3 : w.heap.size + 1 ≤ w3.heap.size := by have := hB3.size; simpa using this
          have R1 := Lib.hid hown3
          have R2 := Lib.hid hB3
          clear hown3 hgrow hne hB3 hi hz0 hz1 hz2 r0 r1
          obtain ⟨bv, bc, rfl⟩ := own_slice R1.out
          have hkt : k + t.size ≤ s.size := hx2
          go_wp2_with fail
          refine (behind_any s (k + t.size) _ [3] _ hsm hkt (by decide) (by have := cells_cls1 w3 3 82; exact this)).mono ?_
          rintro e w4 ⟨rfl, rfl⟩
          obtain ⟨k', hk'⟩ : ∃ q, M.behind [3] s.data.toList (k + t.size) = q := ⟨_, rfl⟩
          have hk1 : k' ≤ s.size := by rw [← hk', ← M.size_list]; exact M.behind_le _ _ _ (by rw [M.size_list]; exact hkt)
          have hk2 : k + t.size ≤ k' := by rw [← hk']; exact M.behind_ge _ _ _
          rw [hk'] at HST2 ⊢
          clear hk'
          go_wp2_with fail
          go_roundw
          case rel =>
            refine ⟨k', f, acc ++ [⟨c, t, p⟩], hk1, by omega, by simp; omega, rfl, HST2, ?_, (R2.out.alloc hz3 _)⟩
            have := R1.out.alloc (.cells #[.int .i64 3] 82)
            rw [lxCells_snoc, List.length_append]
            exact this
          case measure => simp [intOf]; omega
    · obtain ⟨av, ac, rfl⟩ := own_slice HO.out
      have hres : M.tokens s.data.toList = (acc, 0, 0) := by
        rw [← HF.out]
        cases f with
        | zero => rfl
        | succ f => rw [M.tokensF, if_neg (by rw [M.size_list]; exact hlt)]
      obtain ⟨aa, cc, e, hle, hnc, ha⟩ := own_lx HO.out
      cases e
      have HRES := Lib.hid hres
      have HA := Lib.hid ha
      have HLE := Lib.hid hle
      have HNC := Lib.hid hnc
      clear hres ha hle hnc
      go_wp2_with fail
      go_ret3
      exact ⟨av, ac, by rw [HRES.out]; rfl, by rw [HRES.out]; exact HLE.out, HNC.out, by rw [HRES.out]; exact HA.out, hBw⟩

end Go.Proofs.YtamdcloahkacnaaGreatDoor
