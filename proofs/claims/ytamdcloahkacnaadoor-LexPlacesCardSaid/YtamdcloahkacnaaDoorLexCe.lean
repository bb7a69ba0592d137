/- DERIVED. Contract of lex.At. -/
import Derived.Test.YtamdcloahkacnaaDoorLexCd
import Derived.Test.YtamdcloahkacnaaDoorLexY
namespace Go.Proofs.YtamdcloahkacnaaDoor
open Go.RowKit Go.WideMaps Go.Maps Go.Shelf

namespace M
/-- Lines and columns of later places are later. -/
theorem lc_later (s : List UInt8) (i : Nat) : ∀ j, i < j → j ≤ s.length → (lc s i).1 < (lc s j).1 ∨ ((lc s i).1 = (lc s j).1 ∧ (lc s i).2 < (lc s j).2) := by
  intro j
  induction j with
  | zero => intro h; omega
  | succ j ih =>
    intro h1 h2
    have hs := lc_succ s j (by omega)
    have hst : (lc s (j + 1)).1 = (lc s j).1 + 1 ∨ ((lc s (j + 1)).1 = (lc s j).1 ∧ (lc s (j + 1)).2 = (lc s j).2 + 1) := by
      rw [hs]; unfold step
      split
      · exact Or.inl rfl
      · exact Or.inr ⟨rfl, rfl⟩
    rcases Nat.lt_succ_iff_lt_or_eq.1 h1 with h | rfl
    · have := ih h (by omega)
      omega
    · omega
theorem lc_inj (s : List UInt8) (i j : Nat) (hi : i ≤ s.length) (hj : j ≤ s.length) (h : lc s i = lc s j) : i = j := by
  rcases Nat.lt_trichotomy i j with q | q | q
  · have := lc_later s i j q hj; rw [h] at this; omega
  · exact q
  · have := lc_later s j i q hi; rw [h] at this; omega
def atR (s : ByteArray) (v : Int × Int) : Nat × Nat :=
  if (fault s.data.toList).2 ≠ 0 then (0, (fault s.data.toList).2) else
  match (List.range (s.size + 1)).find? (fun k => decide (lc s.data.toList k = v)) with
  | some k => (k, 0)
  | none => (0, 3)
theorem atR_yes (s : ByteArray) (v : Int × Int) (h : (fault s.data.toList).2 = 0) (k : Nat) (hk : k ≤ s.size) (e : lc s.data.toList k = v) : atR s v = (k, 0) := by
  unfold atR
  rw [if_neg (by rw [h]; simp)]
  cases hf : (List.range (s.size + 1)).find? (fun k => decide (lc s.data.toList k = v)) with
  | none =>
    have := List.find?_eq_none.1 hf k (List.mem_range.2 (by omega))
    rw [e] at this; simp at this
  | some j =>
    have h1 := List.find?_some hf
    have h2 := List.mem_range.1 (List.mem_of_find?_eq_some hf)
    simp only [decide_eq_true_eq] at h1
    have := lc_inj s.data.toList j k (by rw [size_list]; omega) (by rw [size_list]; exact hk) (h1.trans e.symm)
    rw [this]
theorem atR_no (s : ByteArray) (v : Int × Int) (h : (fault s.data.toList).2 = 0) (hn : ∀ k, k ∈ List.range (s.size + 1) → lc s.data.toList k ≠ v) : atR s v = (0, 3) := by
  unfold atR
  rw [if_neg (by rw [h]; simp)]
  rw [List.find?_eq_none.2 (fun k hk => by simpa using hn k hk)]
def eqWh (a b : Int × Int) : Bool := decide (a = b)
end M
theorem fields_wh : Tryd.prog.underlying 23 = some (.struct (Tryd.prog.fieldsOf 23)) := by kernel_rfl
theorem stood_wh : Tryd.prog.stoodInHeld 23 = false := by kernel_rfl
set_option maxHeartbeats 1000000 in
set_option maxRecDepth 100000 in
theorem eqWh_run (x y : Int × Int) (w : World) : (Op.equalIn 10000 23 (whV x) (whV y)).run Tryd.prog w = .ok (M.eqWh x y) w := by
  have u3 := Tryd.underlying3
  have a3 := Tryd.isAgg3
  have z3 := Tryd.sizeOf3
  rw [show (10000 : Nat) = 9999 + 1 from rfl, run_equalIn_agg w 9999 23 _ _ fields_wh stood_wh]
  simp only [Program.fieldsOf, Tryd.underlying23]
  go_simp
  unfold M.eqWh
  obtain ⟨a, b⟩ := x
  obtain ⟨c, d⟩ := y
  by_cases h1 : a = c <;> by_cases h2 : b = d <;> simp [h1, h2]

/-- The boxes of At: line and column, the place, the error. -/
theorem at_cells {w w1 : World} {v : Int × Int} {t1 t2 t3 : TypeId} (hB : Below (((w.alloc (.cells #[.int .i64 v.1, .int .i64 v.2] t1)).alloc (.cells #[.int .i64 0] t2)).alloc (.cells #[.int .i64 0] t3)).heap.size (((w.alloc (.cells #[.int .i64 v.1, .int .i64 v.2] t1)).alloc (.cells #[.int .i64 0] t2)).alloc (.cells #[.int .i64 0] t3)) w1) :
    w1.heap[w.heap.size]? = some (.cells #[.int .i64 v.1, .int .i64 v.2] t1 (0, 0)) ∧ w1.heap[w.heap.size + 1]? = some (.cells #[.int .i64 0] t2 (0, 0)) ∧ w1.heap[w.heap.size + 2]? = some (.cells #[.int .i64 0] t3 (0, 0)) ∧ Below w.heap.size w w1 ∧ w.heap.size + 3 ≤ w1.heap.size := by
  have hz := hB.size
  simp at hz
  refine ⟨?_, ?_, ?_, (belowA (belowA (below1 w _) _) _).trans (hB.mono (by simp; omega)), by omega⟩
  · rw [hB.block _ (by simp; omega), Below.heap_alloc _ _ _ (by simp; omega), Below.heap_alloc _ _ _ (by simp)]; exact (MapKept.heap_alloc w _).1
  · rw [hB.block _ (by simp), Below.heap_alloc _ _ _ (by simp)]
    have := (MapKept.heap_alloc (w.alloc (.cells #[.int .i64 v.1, .int .i64 v.2] t1)) (.cells #[.int .i64 0] t2)).1
    simpa using this
  · rw [hB.block _ (by simp)]
    have := (MapKept.heap_alloc ((w.alloc (.cells #[.int .i64 v.1, .int .i64 v.2] t1)).alloc (.cells #[.int .i64 0] t2)) (.cells #[.int .i64 0] t3)).1
    simpa using this

set_option maxHeartbeats 1000000 in
set_option maxRecDepth 100000 in
theorem at_e1 (s : ByteArray) (v : Int × Int) (w : World) (hs : s.size ≤ maxLen) (h : (M.fault s.data.toList).2 ≠ 0) :
    Calls Tryd.prog 8 #[.string s, whV v] w fun e w' => e = .returned (.tuple #[.int .i64 0, .int .i64 (M.fault s.data.toList).2]) ∧ Below w.heap.size w w' := by
  obtain ⟨p, c, hf⟩ : ∃ p c, M.fault s.data.toList = (p, c) := ⟨_, _, rfl⟩
  rw [hf] at h
  dsimp only at h
  have h3 : ((c : Int) == 0) = false := by rw [beq_eq_false_iff_ne]; omega
  have h4 : ((c : Int) != 0) = true := by rw [bne_iff_ne]; omega
  have HF := Lib.hid hf
  clear hf
  go_enter Tryd.func8, Tryd.ntmps8
  go_wp2_with fail
  refine (fault_any s _ hs).mono ?_
  rintro e w1 ⟨rfl, hB1⟩
  rw [HF.out]
  obtain ⟨r0, r1, r2, hB, hz1⟩ := at_cells hB1
  have y0 : w1.cell? ⟨w.heap.size + 1, 0, none⟩ = some (.int .i64 0) := by rw [Lib.cell_of_heap r1]; rfl
  have y2 : w1.cell? ⟨w.heap.size + 1 + 1, 0, none⟩ = some (.int .i64 0) := by rw [Lib.cell_of_heap r2]; rfl
  have f0 := Lib.frozen_of_heap r1 0
  have f2 : w1.frozen? ⟨w.heap.size + 1 + 1, 0, none⟩ = false := Lib.frozen_of_heap r2 0
  have l1 : w.heap.size + 1 < w1.heap.size := by omega
  have l2 : w.heap.size + 1 + 1 < w1.heap.size := by omega
  clear hB1 r0 r1 r2
  dsimp only
  go_wp2_with fail
  refine bodyPost_ret (v := .tuple #[.int .i64 0, .int .i64 c]) (by simp [results, Tryd.results8, go_sem, y0, y2]) rfl ⟨by rw [HF.out], ?_⟩
  exact (hB.setCell (p := ⟨w.heap.size + 1, 0, none⟩) (by show w.heap.size ≤ w.heap.size + 1; omega) _).setCell (p := ⟨w.heap.size + 1 + 1, 0, none⟩) (by show w.heap.size ≤ w.heap.size + 1 + 1; omega) _

/-- What At knows when it has found the place. -/
def AtIx (w : World) (s : ByteArray) (v : Int × Int) (_ : List (Plc s.size)) (W : World) : Prop :=
  ∃ k : Nat, M.lc s.data.toList k = v ∧ k ≤ s.size ∧ W.cell? ⟨w.heap.size + 1, 0, none⟩ = some (.int .i64 k) ∧ W.cell? ⟨w.heap.size + 2, 0, none⟩ = some (.int .i64 0) ∧ Below w.heap.size w W
theorem atIx_free (w : World) (s : ByteArray) (v : Int × Int) (B : Nat) (hB : w.heap.size + 3 ≤ B) : FreeFrom B (AtIx w s v) := by
  rintro pre W W' hz ⟨k, h1, h2, h3, h5, h6⟩ hb
  have hc : ∀ i j v, i < w.heap.size + 3 → W.cell? ⟨i, j, none⟩ = some v → W'.cell? ⟨i, j, none⟩ = some v := fun i j v hi hv => by rw [hb.cell (p := ⟨i, j, none⟩) (by show i < B; omega)]; exact hv
  exact ⟨k, h1, h2, hc _ _ _ (by omega) h3, hc _ _ _ (by omega) h5, h6.trans (hb.mono (by omega))⟩
/-- Between two rounds: none of the places that have come has the line and the column. -/
def AtI (w2 : World) (s : ByteArray) (v : Int × Int) (pre : List (Plc s.size)) (W : World) : Prop := (∀ k, k ∈ pre → M.lc s.data.toList k.1 ≠ v) ∧ Below w2.heap.size w2 W
theorem atI_free (w2 : World) (s : ByteArray) (v : Int × Int) : FreeFrom w2.heap.size (AtI w2 s v) := fun _ _ _ _ h hb => ⟨h.1, h.2.trans hb⟩
/-- The loop's variables at a place. -/
def AtAx (w w1 w2 : World) (s : ByteArray) (v : Int × Int) (p : Nat) (k : Plc s.size) (a' : Act) (W : World) : Prop :=
  ∃ Bx, w2.heap.size + 2 ≤ Bx ∧ W.heap[Bx]? = some (.cells #[.int .i64 (M.lc s.data.toList k.1).1, .int .i64 (M.lc s.data.toList k.1).2] 23 (0, 0)) ∧
    a' = { tmps := #[.string s, whV v, undef, .pointer (some ⟨w.heap.size, 0, none⟩), .pointer (some ⟨w.heap.size + 1, 0, none⟩), .pointer (some ⟨w.heap.size + 1 + 1, 0, none⟩), .int .i64 p, .int .i64 0, .int .i64 k.1, .pointer (some ⟨Bx, 0, none⟩), .tuple #[.int .i64 p, .int .i64 0], .string s, .tuple #[.int .i64 p, .int .i64 0], .int .i64 p, .int .i64 0, .int .i64 0, .bool false, undef, .string s, .func (.func 35) #[] #[.pointer (some ⟨w1.heap.size, 0, none⟩)], .int .i64 k.1, whV (M.lc s.data.toList k.1), undef, undef, undef, undef], defers := [] }
theorem atAx_put (w w1 w2 : World) (s : ByteArray) (v : Int × Int) (p : Nat) (k : Plc s.size) (a' : Act) (W : World) (o : Obj) (h : AtAx w w1 w2 s v p k a' W) : AtAx w w1 w2 s v p k a' (W.putObj (w2.heap.size + 1) o) := by
  obtain ⟨Bx, h1, h2, h3⟩ := h
  exact ⟨Bx, h1, (World.putObj_heap_other (by omega)).trans h2, h3⟩
/-- At, behind its loop: the rounds' deferred calls are none; the results are read. -/
theorem at_end {n : Nat} {w U : World} {D : Nat} {tmps : Array Value} {r0 r2 v : Value} {fn : Func} {Rr : Value}
    (hB : Below w.heap.size w U) (h1 : w.heap.size + 3 ≤ D) (d : U.heap[D]? = some (.deferred (some [])))
    (u0 : U.cell? ⟨w.heap.size + 1, 0, none⟩ = some r0) (u2 : U.cell? ⟨w.heap.size + 1 + 1, 0, none⟩ = some r2)
    (hr : ∀ V : World, V.cell? ⟨w.heap.size + 1, 0, none⟩ = some r0 → V.cell? ⟨w.heap.size + 1 + 1, 0, none⟩ = some r2 → (results fn tmps).run Tryd.prog V = .ok v V)
    (hv : v = Rr) :
    bodyPostM Fence.wide n Tryd.prog fn (fun e w' => e = .returned Rr ∧ Below w.heap.size w w') .ret { tmps := tmps, defers := [{ target := .collected D, args := #[] }] } U := by
  have e : ∀ j, j ≠ D → (U.putObj D (.deferred none)).heap[j]? = U.heap[j]? := fun j hj => World.putObj_heap_other hj
  have hc : ∀ i j, i ≠ D → (U.putObj D (.deferred none)).cell? ⟨i, j, none⟩ = U.cell? ⟨i, j, none⟩ := fun i j hi => World.cell?_of_block (w := U) (a := ⟨i, j, none⟩) (e i hi)
  refine ⟨by simp, .inl ⟨_, _, rfl, run_takeDeferred d, ?_⟩⟩
  refine ⟨v, ?_, by rw [hv], ?_⟩
  · exact hr _ ((hc _ _ (by omega)).trans u0) ((hc _ _ (by omega)).trans u2)
  · exact hB.trans (below_put _ _ _ _ (by omega))

attribute [local go_sem] Oper.semAt_some

set_option maxHeartbeats 4000000 in
set_option maxRecDepth 100000 in
theorem at_ok (s : ByteArray) (v : Int × Int) (w : World) (h : (M.fault s.data.toList).2 = 0) :
    Calls Tryd.prog 8 #[.string s, whV v] w fun e w' => e = .returned (.tuple #[.int .i64 (M.atR s v).1, .int .i64 (M.atR s v).2]) ∧ Below w.heap.size w w' := by
  have hsm : s.size ≤ 2500 := by rw [← M.size_list]; exact M.fault_small s.data.toList h
  have hno := M.atR_no s v h
  have hyes := M.atR_yes s v h
  obtain ⟨p, c, hf⟩ : ∃ p c, M.fault s.data.toList = (p, c) := ⟨_, _, rfl⟩
  rw [hf] at h
  dsimp only at h
  subst h
  have HF := Lib.hid hf
  have HNO := Lib.hid hno
  have HYES := Lib.hid hyes
  clear hf hno hyes
  refine (callsIn_wide (n := 9)).1 ?_
  refine callsIn_of_wp_marks Tryd.func8 rfl trivial ?_ rfl
  simp only [Tryd.ntmps8, List.size_toArray, List.length_cons, List.length_nil, Nat.reduceAdd, Nat.reduceSub, Array.replicate_succ, Array.replicate_zero, List.push_toArray, List.append_toArray, List.nil_append, List.cons_append]
  gi_wp2_with fail
  refine ⟨trivial, callsIn_wide.2 ((fault_any s _ (by unfold maxLen; omega)).mono ?_)⟩
  rintro e w1 ⟨rfl, hB1⟩
  rw [HF.out]
  dsimp only
  gi_wp2_with fail
  refine ⟨trivial, callsIn_wide.2 ((places_any s _).mono ?_)⟩
  rintro e w2 ⟨rfl, hw2⟩
  gi_wp2_with fail
  rw [← hw2]
  obtain ⟨r0, r1, r2, hB, hz1⟩ := at_cells hB1
  have hz2 : w2.heap.size = w1.heap.size + 1 := by rw [hw2]; simp
  have hcs : w2.cell? ⟨w1.heap.size, 0, none⟩ = some (.string s) := by rw [hw2, World.cell?_alloc_at _ _ _ _ rfl]; rfl
  have hB12 : Below w1.heap.size w1 w2 := by rw [hw2]; exact below1 _ _
  replace r0 := (hB12.block _ (by omega)).trans r0
  replace r1 := (hB12.block _ (by omega)).trans r1
  replace r2 := (hB12.block _ (by omega)).trans r2
  replace hB := below2 hB hB12
  have R0 := Lib.hid r0
  have R1 := Lib.hid r1
  have R2 := Lib.hid r2
  clear r0 r1 r2 hB1 hw2 hB12
  refine wpIn_range_free (α := Plc s.size) rfl (by omega) (gf := 35) (lb := #[.pointer (some ⟨w1.heap.size, 0, none⟩)]) rfl trivial enters_places1
    (places_stops 8 w1.heap.size s w2 (by omega) (by omega) (by omega) hcs) (fun _ => rfl) (AtI w2 s v) (AtIx w s v) (atI_free w2 s v) (atIx_free w s v w2.heap.size (by omega))
    ⟨fun k hk => by simp at hk, Below.refl _ _⟩ (AtAx w w1 w2 s v p) (fun k a' W o _ h => atAx_put _ _ _ _ _ _ _ _ _ _ h) ?assign ?body ?done ?stop
  case assign =>
    intro l pre k W K hz hI hK
    have hK' := Lib.hid hK
    clear hK
    gi_wp2_with fail
    exact hK'.out _ _ (below1 _ _) ⟨W.heap.size, hz, (MapKept.heap_alloc W _).1, rfl⟩
  case body =>
    rintro l pre ⟨k, hk⟩ a' W hz ⟨hne, hBW⟩ ⟨Bx, hBx, hbx, rfl⟩ hlen
    dsimp only at hbx ⊢
    have r0 := (hBW.block w.heap.size (by omega)).trans R0.out
    have r1 := (hBW.block (w.heap.size + 1) (by omega)).trans R1.out
    have r2 := (hBW.block (w.heap.size + 1 + 1) (by omega)).trans R2.out
    have hBf : Below w.heap.size w W := below2 hB hBW
    have c0 : W.cell? ⟨w.heap.size, 0, none⟩ = some (.int .i64 v.1) := by rw [Lib.cell_of_heap r0]; rfl
    have c1 : W.cell? ⟨w.heap.size, 1, none⟩ = some (.int .i64 v.2) := by rw [Lib.cell_of_heap r0]; rfl
    have x0 : W.cell? ⟨Bx, 0, none⟩ = some (.int .i64 (M.lc s.data.toList k).1) := by rw [Lib.cell_of_heap hbx]; rfl
    have x1 : W.cell? ⟨Bx, 1, none⟩ = some (.int .i64 (M.lc s.data.toList k).2) := by rw [Lib.cell_of_heap hbx]; rfl
    have HNE := Lib.hid hne
    have hq := fun W => eqWh_run (M.lc s.data.toList k) v W
    clear hne r0 hbx
    by_cases hkn : M.lc s.data.toList k = v
    · have e1 : M.eqWh (M.lc s.data.toList k) v = true := decide_eq_true hkn
      have y0 : W.cell? ⟨w.heap.size + 1, 0, none⟩ = some (.int .i64 0) := by rw [Lib.cell_of_heap r1]; rfl
      have y2 : W.cell? ⟨w.heap.size + 1 + 1, 0, none⟩ = some (.int .i64 0) := by rw [Lib.cell_of_heap r2]; rfl
      have f0 := Lib.frozen_of_heap r1 0
      have f2 := Lib.frozen_of_heap r2 0
      have l1 : w.heap.size + 1 < W.heap.size := by omega
      have l2 : w.heap.size + 1 + 1 < W.heap.size := by omega
      have HKN := Lib.hid hkn
      clear hkn r1 r2
      gi_wp2_with fail
      have hb3 : ∀ j, j ≠ w.heap.size + 1 → j ≠ w.heap.size + 1 + 1 → ∀ u z, ((W.setCell ⟨w.heap.size + 1, 0, none⟩ u).setCell ⟨w.heap.size + 1 + 1, 0, none⟩ z).heap[j]? = W.heap[j]? := fun j h1 h2 u z => by
        rw [Below.heap_setCell _ _ _ _ h2, Below.heap_setCell _ _ _ _ h1]
      refine ⟨by simp, hb3 _ (by omega) (by omega) _ _, hb3 _ (by omega) (by omega) _ _, k, HKN.out, hk, ?_, ?_, ?_⟩
      · simp [go_sem, y0]
      · simp [go_sem, y2]
      · exact (hBf.setCell (p := ⟨w.heap.size + 1, 0, none⟩) (by show w.heap.size ≤ w.heap.size + 1; omega) _).setCell (p := ⟨w.heap.size + 1 + 1, 0, none⟩) (by show w.heap.size ≤ w.heap.size + 1 + 1; omega) _
    · have e1 : M.eqWh (M.lc s.data.toList k) v = false := decide_eq_false hkn
      clear r1 r2
      gi_wp2_with fail
      refine ⟨Below.refl _ _, fun j hj => ?_, hBW⟩
      rcases List.mem_append.1 hj with hj | hj
      · exact HNE.out j hj
      · rw [List.mem_singleton] at hj; subst hj; exact hkn
  case done =>
    rintro xs W hz hxs ⟨hne, hBW⟩ hDef
    have hres := HNO.out (fun k hk => by
      rw [← hxs] at hk
      obtain ⟨y, hy, rfl⟩ := List.mem_map.1 hk
      exact hne y hy)
    have r1 := (hBW.block (w.heap.size + 1) (by omega)).trans R1.out
    have r2 := (hBW.block (w.heap.size + 1 + 1) (by omega)).trans R2.out
    have hBf : Below w.heap.size w W := below2 hB hBW
    have y0 : W.cell? ⟨w.heap.size + 1, 0, none⟩ = some (.int .i64 0) := by rw [Lib.cell_of_heap r1]; rfl
    have y2 : W.cell? ⟨w.heap.size + 1 + 1, 0, none⟩ = some (.int .i64 0) := by rw [Lib.cell_of_heap r2]; rfl
    have f0 := Lib.frozen_of_heap r1 0
    have f2 := Lib.frozen_of_heap r2 0
    have l1 : w.heap.size + 1 < W.heap.size := by omega
    have l2 : w.heap.size + 1 + 1 < W.heap.size := by omega
    have HRES := Lib.hid hres
    have HDEF := Lib.hid hDef
    clear hres hxs hne r1 r2 hDef
    gi_wp2_with fail
    obtain ⟨U, hU⟩ : ∃ U, ((W.setCell ⟨w.heap.size + 1, 0, none⟩ (.int .i64 0)).setCell ⟨w.heap.size + 1 + 1, 0, none⟩ (.int .i64 3)) = U := ⟨_, rfl⟩
    have d : U.heap[w2.heap.size]? = some (.deferred (some [])) := by
      rw [← hU, Below.heap_setCell _ _ _ _ (by show w2.heap.size ≠ w.heap.size + 1 + 1; omega), Below.heap_setCell _ _ _ _ (by show w2.heap.size ≠ w.heap.size + 1; omega)]; exact HDEF.out
    have u0 : U.cell? ⟨w.heap.size + 1, 0, none⟩ = some (.int .i64 0) := by rw [← hU]; simp [go_sem, y0]
    have u2 : U.cell? ⟨w.heap.size + 1 + 1, 0, none⟩ = some (.int .i64 3) := by rw [← hU]; simp [go_sem, y2]
    have hBU : Below w.heap.size w U := by
      rw [← hU]
      exact (hBf.setCell (p := ⟨w.heap.size + 1, 0, none⟩) (by show w.heap.size ≤ w.heap.size + 1; omega) _).setCell (p := ⟨w.heap.size + 1 + 1, 0, none⟩) (by show w.heap.size ≤ w.heap.size + 1 + 1; omega) _
    rw [hU]
    exact at_end (v := .tuple #[.int .i64 0, .int .i64 3]) hBU (by omega) d u0 u2 (fun V v0 v2 => by simp [results, Tryd.results8, go_sem, v0, v2]) (by rw [HRES.out]; rfl)
  case stop =>
    rintro pre W hz ⟨k, hk, hks, c0, c2, hBf⟩ hDef
    have hres := HYES.out k hks hk
    have HRES := Lib.hid hres
    have HDEF := Lib.hid hDef
    clear hres hDef hk
    gi_wp2_with fail
    exact at_end (v := .tuple #[.int .i64 k, .int .i64 0]) hBf (by omega) HDEF.out c0 c2 (fun V v0 v2 => by simp [results, Tryd.results8, go_sem, v0, v2]) (by rw [HRES.out]; rfl)

theorem at_any (s : ByteArray) (v : Int × Int) (w : World) (hs : s.size ≤ maxLen) :
    Calls Tryd.prog 8 #[.string s, whV v] w fun e w' => e = .returned (.tuple #[.int .i64 (M.atR s v).1, .int .i64 (M.atR s v).2]) ∧ Below w.heap.size w w' := by
  by_cases h : (M.fault s.data.toList).2 = 0
  · exact at_ok s v w h
  · have hr : M.atR s v = (0, (M.fault s.data.toList).2) := by unfold M.atR; rw [if_pos h]
    rw [hr]
    exact at_e1 s v w hs h
end Go.Proofs.YtamdcloahkacnaaDoor
