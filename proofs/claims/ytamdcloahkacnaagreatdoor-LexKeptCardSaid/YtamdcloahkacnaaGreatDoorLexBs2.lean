/- DERIVED. Tokens that are appended at a step of a region that draws its order. -/
import Derived.Test.YtamdcloahkacnaaGreatDoorLexBi
namespace Go.Proofs.YtamdcloahkacnaaGreatDoor
open Go.RowKit Go.WideMaps Go.Maps Go.Shelf

/-- 'append' of tokens at a step of a region that draws its order. -/
theorem step_app_lx {ops : Array Oper} {o : Oper} {A : Act} {K : Act → World → Prop} {Q : Exit → Act → World → Prop} {E : Prop} {W : World} (hgd : o.guard = none) (s x : Operand)
    (ho : o.op = .call { callee := .builtin .append, args := #[s, x], argTypes := #[22, 22] })
    (base : Nat) (v : Value) (xs : List M.Lx) (hs : A.eval s = v) (hown : W.ownsRow base 42 3 v xs.length (lxCells xs))
    (a : Option Addr) (c : Nat) (l : List M.Lx) (n : Nat) (hn : n = l.length) (hx : A.eval x = .slice a n c) (hc : a = none → c = 0) (hl : LxSl W a l) (hle : xs.length + l.length ≤ 1000000) (hbase : base ≤ W.heap.size)
    (h : ∀ v' w', w'.ownsRow base 42 3 v' (xs ++ l).length (lxCells (xs ++ l)) → W.grownBy w' v.ownBlock → K (A.put o.dst v') w') :
    if Region.wanted o (yielded ops A.tmps) = true then Oper.wp Tryz.prog o A W K Q else E := by
  have hw : Region.wanted o (yielded ops A.tmps) = true := by simp [Region.wanted, hgd]
  rw [if_pos hw]
  subst hn
  obtain ⟨i0, hi, hz0, hz1, hz2⟩ := info_parts lxInfo
  cases a with
  | none =>
    obtain rfl := hc rfl
    have h0 : l = [] := by
      rcases hl with h | ⟨_, _, h, _⟩
      · exact h
      · cases h
    subst h0
    have hrun := run_append_owned_none (P := Tryz.prog) (w := W) base 22 o.type 42 i0 3 Tryz.underlying22 hi v xs.length (lxCells xs) hown
    have h1 := h v W (by rw [List.append_nil]; exact hown) (World.grownBy.refl _ _)
    have hx' : A.eval x = .slice none 0 0 := hx
    unfold Oper.wp
    simp [execOp, ho, resolve, invoke, builtin, hs, hx', hrun, Result.andThen]
    exact h1
  | some ad =>
    refine wp_append_own W s x _ ho base 42 i0 (.agg #[.int .u8 0, .string ⟨#[]⟩, .int .i64 0]) 3 32 Tryz.underlying22 hi hz0 hz1 hz2 rfl (by decide) v xs.length (lxCells xs) hs hown ad l.length c (lxCells l) hx (lxCells_len l) ?_ ?_ (by unfold maxLen; omega) (by omega) hbase ?_
    · intro j u hj
      have hjl : j < l.length * 3 := by
        have := (List.getElem?_eq_some_iff.1 hj).1
        rwa [lxCells_len] at this
      obtain ⟨q, r, rfl, hr⟩ : ∃ q r, j = q * 3 + r ∧ r < 3 := ⟨j / 3, j % 3, by omega, by omega⟩
      have hq : q < l.length := by omega
      obtain ⟨b, off, e, hA⟩ := hl.at hq
      cases e
      have e1 : (⟨b, off, none⟩ : Addr).add (q * 3 + r) = ⟨b, off + (q * 3 + r), none⟩ := by simp [Addr.add]
      rw [e1, ← hj]
      have hc := lxCells_at l q hq
      match r, hr with
      | 0, _ => exact (hA.c0 q hq).trans hc.1.symm
      | 1, _ => exact (hA.c1 q hq).trans hc.2.1.symm
      | 2, _ => exact (hA.c2 q hq).trans hc.2.2.symm
    · intro u hu
      obtain ⟨x, _, hx⟩ := List.mem_flatMap.1 hu
      simp at hx
      rcases hx with rfl | rfl | rfl <;> rfl
    · intro v' w' h1 h2 _
      refine h v' w' ?_ h2
      have e : lxCells (xs ++ l) = lxCells xs ++ lxCells l := by unfold lxCells; rw [List.flatMap_append]
      rw [e, List.length_append]; exact h1
theorem own_none (W : World) (b : Nat) : W.ownsRow b 42 3 (.slice none 0 0) ([] : List M.Lx).length (lxCells []) := ⟨rfl, Or.inl ⟨rfl, rfl⟩⟩
theorem own_of_below {W W' : World} {b : Nat} {v : Value} {n : Nat} {xs : List Value} (h : W.ownsRow b 42 3 v n xs) (hB : Below W.heap.size W W') : W'.ownsRow b 42 3 v n xs := by
  refine ⟨h.1, ?_⟩
  rcases h.2 with h | ⟨g, cap, cur, e, hb, hg, hr⟩
  · exact Or.inl h
  · refine Or.inr ⟨g, cap, cur, e, hb, ?_, hr⟩
    rw [hB.block g (Lib.lt_of_heap hg)]; exact hg

theorem grow_first {w W1 : World} (h : w.drew.grownBy W1 (Value.slice none 0 0).ownBlock) : Below w.heap.size w W1 :=
  ((Below.refl _ w).drew).grown h (Nat.le_refl _) (fun j e => by cases e)
theorem grow_next {w W1 W2 : World} {v : Value} {n : Nat} {xs : List Value} {e : TypeId} {size : Nat} (hB : Below w.heap.size w W1) (ho : W1.ownsRow w.heap.size e size v n xs) (h : W1.grownBy W2 v.ownBlock) : Below w.heap.size w W2 :=
  hB.grown h hB.size (fun j q => by
    rcases ho.2 with ⟨rfl, _⟩ | ⟨g, cap, cur, rfl, hb, _⟩
    · cases q
    · cases q; exact hb)

theorem grow_none {w W1 W2 : World} (hB : Below w.heap.size w W1) (h : W1.grownBy W2 (Value.slice none 0 0).ownBlock) : Below w.heap.size w W2 :=
  hB.grown h hB.size (fun j e => by cases e)
theorem below_none {W1 W2 : World} (h : W1.grownBy W2 (Value.slice none 0 0).ownBlock) : Below W1.heap.size W1 W2 :=
  (Below.refl _ W1).grown h (Nat.le_refl _) (fun j e => by cases e)
end Go.Proofs.YtamdcloahkacnaaGreatDoor
