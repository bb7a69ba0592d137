/- DERIVED. Tokens that are appended to an owned row; the document's own Alike. -/
import Derived.Test.YtamdcloahkacnaaGreatDoorLexBd
import Derived.Test.YtamdcloahkacnaaGreatDoorLexSb
import Derived.Laws.AppendOwnNone
namespace Go.Proofs.YtamdcloahkacnaaGreatDoor
open Go.RowKit Go.WideMaps Go.Maps Go.Shelf

/-- 'append' of tokens, wherever they lie, nil or not, onto a row of one's own. -/
theorem app_lx {ops : Array Oper} {rest : List Oper} {o : Oper} {A : Act} {Q : Exit → Act → World → Prop} {W : World} (hgd : o.guard = none) (s x : Operand)
    (ho : o.op = .call { callee := .builtin .append, args := #[s, x], argTypes := #[22, 22] })
    (base : Nat) (v : Value) (xs : List M.Lx) (hs : A.eval s = v) (hown : W.ownsRow base 42 3 v xs.length (lxCells xs))
    (a : Option Addr) (c : Nat) (l : List M.Lx) (n : Nat) (hn : n = l.length) (hx : A.eval x = .slice a n c) (hc : a = none → c = 0) (hl : LxSl W a l) (hle : xs.length + l.length ≤ 1000000) (hbase : base ≤ W.heap.size)
    (h : ∀ v' w', w'.ownsRow base 42 3 v' (xs ++ l).length (lxCells (xs ++ l)) → W.grownBy w' v.ownBlock → wpList Tryz.prog ops Q rest (A.put o.dst v') w') : wpList Tryz.prog ops Q (o :: rest) A W := by
  subst hn
  obtain ⟨i0, hi, hz0, hz1, hz2⟩ := info_parts lxInfo
  cases a with
  | none =>
    obtain rfl := hc rfl
    have h0 : l = [] := by
      rcases hl with h | ⟨_, _, h, _⟩
      · exact h
      · cases h
    subst h0
    refine wpList_append_own_none hgd s x _ ho base 42 i0 3 Tryz.underlying22 hi v xs.length (lxCells xs) hs hown hx ?_
    exact h v W (by rw [List.append_nil]; exact hown) (World.grownBy.refl _ _)
  | some ad =>
    refine wpList_append_own W hgd s x _ ho base 42 i0 (.agg #[.int .u8 0, .string ⟨#[]⟩, .int .i64 0]) 3 32 Tryz.underlying22 hi hz0 hz1 hz2 rfl (by decide) v xs.length (lxCells xs) hs hown ad l.length c (lxCells l) hx (lxCells_len l) ?_ ?_ (by unfold maxLen; omega) (by omega) hbase ?_
    · intro j u hj
      have hjl : j < l.length * 3 := by
        have := (List.getElem?_eq_some_iff.1 hj).1
        rwa [lxCells_len] at this
      obtain ⟨q, r, rfl, hr⟩ : ∃ q r, j = q * 3 + r ∧ r < 3 := ⟨j / 3, j % 3, by omega, by omega⟩
      have hq : q < l.length := by omega
      obtain ⟨b, off, e, hA⟩ := hl.at hq
      cases e
      have e1 : (⟨b, off, none⟩ : Addr).add (q * 3 + r) = ⟨b, off + (q * 3 + r), none⟩ := by simp [Addr.add]
      rw [e1, ← hj]
      have hc := lxCells_at l q hq
      match r, hr with
      | 0, _ => exact (hA.c0 q hq).trans hc.1.symm
      | 1, _ => exact (hA.c1 q hq).trans hc.2.1.symm
      | 2, _ => exact (hA.c2 q hq).trans hc.2.2.symm
    · intro u hu
      obtain ⟨x, _, hx⟩ := List.mem_flatMap.1 hu
      simp at hx
      rcases hx with rfl | rfl | rfl <;> rfl
    · intro v' w' h1 h2 _
      refine h v' w' ?_ h2
      have e : lxCells (xs ++ l) = lxCells xs ++ lxCells l := by unfold lxCells; rw [List.flatMap_append]
      rw [e, List.length_append]; exact h1
theorem own_nil (W : World) : W.ownsRow W.heap.size 42 3 (.slice none 0 0) ([] : List M.Lx).length (lxCells []) := ⟨rfl, Or.inl ⟨rfl, rfl⟩⟩

end Go.Proofs.YtamdcloahkacnaaGreatDoor
