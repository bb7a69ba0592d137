/- DERIVED. Tokens that are appended to an owned row; the document's own Alike. -/
import Derived.Test.YtcaanpifkcaldaaDoorLexBd
import Derived.Test.YtcaanpifkcaldaaDoorLexSb
import Derived.Laws.AppendOwnNone
namespace Go.Proofs.YtcaanpifkcaldaaDoor
open Go.RowKit Go.WideMaps Go.Maps Go.Shelf

/-- 'append' of tokens, wherever they lie, nil or not, onto a row of one's own. -/
theorem app_lx {ops : Array Oper} {rest : List Oper} {o : Oper} {A : Act} {Q : Exit → Act → World → Prop} {W : World} (hgd : o.guard = none) (s x : Operand)
    (ho : o.op = .call { callee := .builtin .append, args := #[s, x], argTypes := #[38, 38] })
    (base : Nat) (v : Value) (xs : List M.Lx) (hs : A.eval s = v) (hown : W.ownsRow base 45 3 v xs.length (lxCells xs))
    (a : Option Addr) (c : Nat) (l : List M.Lx) (n : Nat) (hn : n = l.length) (hx : A.eval x = .slice a n c) (hc : a = none → c = 0) (hl : LxSl W a l) (hle : xs.length + l.length ≤ 1000000) (hbase : base ≤ W.heap.size)
    (h : ∀ v' w', w'.ownsRow base 45 3 v' (xs ++ l).length (lxCells (xs ++ l)) → W.grownBy w' v.ownBlock → wpList Tryd.prog ops Q rest (A.put o.dst v') w') : wpList Tryd.prog ops Q (o :: rest) A W := by
  subst hn
  obtain ⟨i0, hi, hz0, hz1, hz2⟩ := info_parts lxInfo
  cases a with
  | none =>
    obtain rfl := hc rfl
    have h0 : l = [] := by
      rcases hl with h | ⟨_, _, h, _⟩
      · exact h
      · cases h
    subst h0
    refine wpList_append_own_none hgd s x _ ho base 45 i0 3 Tryd.underlying38 hi v xs.length (lxCells xs) hs hown hx ?_
    exact h v W (by rw [List.append_nil]; exact hown) (World.grownBy.refl _ _)
  | some ad =>
    refine wpList_append_own W hgd s x _ ho base 45 i0 (.agg #[.int .u8 0, .string ⟨#[]⟩, .int .i64 0]) 3 32 Tryd.underlying38 hi hz0 hz1 hz2 rfl (by decide) v xs.length (lxCells xs) hs hown ad l.length c (lxCells l) hx (lxCells_len l) ?_ ?_ (by unfold maxLen; omega) (by omega) hbase ?_
    · intro j u hj
      have hjl : j < l.length * 3 := by
        have := (List.getElem?_eq_some_iff.1 hj).1
        rwa [lxCells_len] at this
      obtain ⟨q, r, rfl, hr⟩ : ∃ q r, j = q * 3 + r ∧ r < 3 := ⟨j / 3, j % 3, by omega, by omega⟩
      have hq : q < l.length := by omega
      obtain ⟨b, off, e, hA⟩ := hl.at hq
      cases e
      have e1 : (⟨b, off, none⟩ : Addr).add (q * 3 + r) = ⟨b, off + (q * 3 + r), none⟩ := by simp [Addr.add]
      rw [e1, ← hj]
      have hc := lxCells_at l q hq
      match r, hr with
      | 0, _ => exact (hA.c0 q hq).trans hc.1.symm
      | 1, _ => exact (hA.c1 q hq).trans hc.2.1.symm
      | 2, _ => exact (hA.c2 q hq).trans hc.2.2.symm
    · intro u hu
      obtain ⟨x, _, hx⟩ := List.mem_flatMap.1 hu
      simp at hx
      rcases hx with rfl | rfl | rfl <;> rfl
    · intro v' w' h1 h2 _
      refine h v' w' ?_ h2
      have e : lxCells (xs ++ l) = lxCells xs ++ lxCells l := by unfold lxCells; rw [List.flatMap_append]
      rw [e, List.length_append]; exact h1
theorem own_nil (W : World) : W.ownsRow W.heap.size 45 3 (.slice none 0 0) ([] : List M.Lx).length (lxCells []) := ⟨rfl, Or.inl ⟨rfl, rfl⟩⟩

namespace M
def alikeB (l m : List Lx) : Bool := decide (alikeK l = alikeK m)
def alikeP (x y : Lx) : Bool := decide (x.kind = y.kind) && (x.text.toList == y.text.toList)
theorem alike_of (l m : List Lx) (hlen : l.length = m.length) (h : ∀ j, (h1 : j < l.length) → (h2 : j < m.length) → alikeP l[j] m[j] = true) : alikeK l = alikeK m := by
  unfold alikeK
  apply List.ext_getElem (by simp [hlen])
  intro j h1 h2
  rw [List.length_map] at h1 h2
  have := h j h1 h2
  unfold alikeP at this
  rw [Bool.and_eq_true, decide_eq_true_eq, beq_iff_eq, ByteArray.toList_eq, ByteArray.toList_eq] at this
  rw [List.getElem_map, List.getElem_map, this.1, ba_ext this.2]
theorem alike_not (l m : List Lx) (j : Nat) (h1 : j < l.length) (h2 : j < m.length) (h : alikeP l[j] m[j] = false) : alikeK l ≠ alikeK m := by
  intro e
  have h3 : (alikeK l)[j]? = (alikeK m)[j]? := by rw [e]
  unfold alikeK at h3
  rw [List.getElem?_map, List.getElem?_map, List.getElem?_eq_getElem h1, List.getElem?_eq_getElem h2] at h3
  simp only [Option.map_some, Option.some.injEq, Prod.mk.injEq] at h3
  unfold alikeP at h
  rw [h3.1, h3.2] at h
  simp at h
end M

set_option maxHeartbeats 1000000 in
set_option maxRecDepth 100000 in
theorem alike_lx (a a' : Option Addr) (c c' : Nat) (l m : List M.Lx) (w : World) (hl : l.length ≤ 1000000) (ho : LxSl w a l) (hn : LxSl w a' m) :
    Calls Tryd.prog 20 #[.slice a l.length c, .slice a' m.length c'] w fun e w' => e = .returned (.bool (M.alikeB l m)) ∧ Below w.heap.size w w' := by
  have HO := Lib.hid ho
  have HN := Lib.hid hn
  clear ho hn
  by_cases hlen : l.length = m.length
  · have h1 : ((l.length : Int) == (m.length : Int)) = true := by rw [hlen]; exact beq_self_eq_true _
    have h2 : ((l.length : Int) != (m.length : Int)) = false := by rw [hlen]; exact bne_self_eq_false _
    have HLEN := Lib.hid hlen
    clear hlen
    go_enter Tryd.func20, Tryd.ntmps20
    go_wp2_with fail
    go_loopw [5] (fun i wr => ∃ k : Nat, k ≤ l.length ∧ i = .int .i64 k ∧ (∀ j, (h : j < l.length) → (h2 : j < m.length) → j < k → M.alikeP l[j] m[j] = true) ∧ Below w.heap.size w wr) (fun i _ => l.length - (intOf i).toNat)
    case atStart => exact ⟨0, by omega, rfl, fun j _ _ h => by omega, Below.refl _ _⟩
    case round =>
      rename_i wr
      obtain ⟨k, hk, rfl, hall, hB⟩ := hrel
      have HALL := Lib.hid hall
      clear hall
      by_cases hkl : k < l.length
      · have hkm : k < m.length := by rw [← HLEN.out]; exact hkl
        obtain ⟨b, off, rfl, ha⟩ := HO.out.at hkl
        obtain ⟨b', off', rfl, ha'⟩ := HN.out.at hkm
        have c0 := (ha.below hB).c0 k hkl
        have c1 := (ha.below hB).c1 k hkl
        have d0 := (ha'.below hB).c0 k hkm
        have d1 := (ha'.below hB).c1 k hkm
        have n1 : (k : Int) < (l.length : Int) := by omega
        have n3 : (k : Int) < (m.length : Int) := by omega
        have n2 : (0 : Int) ≤ (k : Int) := by omega
        have hno := M.alike_not l m k hkl hkm
        obtain ⟨x, hx⟩ : ∃ x, l[k] = x := ⟨_, rfl⟩
        obtain ⟨y, hy⟩ : ∃ y, m[k] = y := ⟨_, rfl⟩
        have hall2 : M.alikeP x y = true → ∀ j, (h : j < l.length) → (h2 : j < m.length) → j < k + 1 → M.alikeP l[j] m[j] = true := by
          intro hp j q1 q2 hj
          rcases Nat.lt_succ_iff_lt_or_eq.1 hj with hj | rfl
          · exact HALL.out j q1 q2 hj
          · rw [hx, hy]; exact hp
        rw [hx] at c0 c1 hno
        rw [hy] at d0 d1 hno
        have HA2 := Lib.hid hall2
        have HNO := Lib.hid hno
        clear ha ha' hx hy hall2 hno
        by_cases hkk : x.kind = y.kind
        · have k1 : (x.kind == y.kind) = true := by rw [hkk]; exact beq_self_eq_true _
          have k2 : (x.kind != y.kind) = false := by rw [hkk]; exact bne_self_eq_false _
          cases ht : (x.text.toList == y.text.toList)
          · have hp : M.alikeP x y = false := by unfold M.alikeP; rw [ht]; simp
            have hres : M.alikeB l m = false := decide_eq_false (HNO.out hp)
            have HRES := Lib.hid hres
            clear hp hres hkk
            go_wp2_with fail
            go_quiet (fail)
            go_wp2_with fail
            go_ret
            exact ⟨ret_bool HRES.out.symm, belowN hB _⟩
          · have hp : M.alikeP x y = true := by unfold M.alikeP; rw [ht, decide_eq_true hkk]; rfl
            have HP := Lib.hid (HA2.out hp)
            clear hp hkk
            go_wp2_with fail
            go_quiet (fail)
            go_wp2_with fail
            exact ⟨⟨k + 1, by omega, by simp, HP.out, belowN hB _⟩, by simp [intOf]; omega⟩
        · have k1 : (x.kind == y.kind) = false := by rw [beq_eq_false_iff_ne]; exact hkk
          have k2 : (x.kind != y.kind) = true := by rw [bne_iff_ne]; exact hkk
          have hp : M.alikeP x y = false := by unfold M.alikeP; rw [decide_eq_false hkk]; rfl
          have hres : M.alikeB l m = false := decide_eq_false (HNO.out hp)
          have HRES := Lib.hid hres
          clear hp hres hkk
          go_wp2_with fail
          go_quiet (fail)
          go_wp2_with fail
          go_ret
          exact ⟨ret_bool HRES.out.symm, belowN hB _⟩
      · have hkl' : ¬ (k : Int) < (l.length : Int) := by omega
        have hres : M.alikeB l m = true := decide_eq_true (M.alike_of l m HLEN.out fun j q1 q2 => HALL.out j q1 q2 (by omega))
        have HRES := Lib.hid hres
        clear hres
        go_wp2_with fail
        go_ret
        exact ⟨ret_bool HRES.out.symm, hB⟩
  · have h1 : ((l.length : Int) == (m.length : Int)) = false := by rw [beq_eq_false_iff_ne]; omega
    have h2 : ((l.length : Int) != (m.length : Int)) = true := by rw [bne_iff_ne]; omega
    have hres : M.alikeB l m = false := by
      refine decide_eq_false fun e => hlen ?_
      have := congrArg List.length e
      unfold M.alikeK at this
      rw [List.length_map, List.length_map] at this
      exact this
    have HRES := Lib.hid hres
    clear hres
    go_enter Tryd.func20, Tryd.ntmps20
    go_wp2_with fail
    go_ret
    exact ⟨ret_bool HRES.out.symm, Below.refl _ _⟩
end Go.Proofs.YtcaanpifkcaldaaDoor
