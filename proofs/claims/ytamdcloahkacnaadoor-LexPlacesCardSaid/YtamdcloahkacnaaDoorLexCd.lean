/- DERIVED. Contract of lex.Where. -/
import Derived.Test.YtamdcloahkacnaaDoorLexCc
namespace Go.Proofs.YtamdcloahkacnaaDoor
open Go.RowKit Go.WideMaps Go.Maps Go.Shelf

/-- The boxes of Where: the place, line and column, the error. -/
theorem wh_cells {w w1 : World} {n : Int} {t1 t2 t3 : TypeId} (hB : Below (((w.alloc (.cells #[.int .i64 n] t1)).alloc (.cells #[.int .i64 0, .int .i64 0] t2)).alloc (.cells #[.int .i64 0] t3)).heap.size (((w.alloc (.cells #[.int .i64 n] t1)).alloc (.cells #[.int .i64 0, .int .i64 0] t2)).alloc (.cells #[.int .i64 0] t3)) w1) :
    w1.heap[w.heap.size]? = some (.cells #[.int .i64 n] t1 (0, 0)) ∧ w1.heap[w.heap.size + 1]? = some (.cells #[.int .i64 0, .int .i64 0] t2 (0, 0)) ∧ w1.heap[w.heap.size + 2]? = some (.cells #[.int .i64 0] t3 (0, 0)) ∧ Below w.heap.size w w1 ∧ w.heap.size + 3 ≤ w1.heap.size := by
  have hz := hB.size
  simp at hz
  refine ⟨?_, ?_, ?_, (belowA (belowA (below1 w _) _) _).trans (hB.mono (by simp; omega)), by omega⟩
  · rw [hB.block _ (by simp; omega), Below.heap_alloc _ _ _ (by simp; omega), Below.heap_alloc _ _ _ (by simp)]; exact (MapKept.heap_alloc w _).1
  · rw [hB.block _ (by simp), Below.heap_alloc _ _ _ (by simp)]
    have := (MapKept.heap_alloc (w.alloc (.cells #[.int .i64 n] t1)) (.cells #[.int .i64 0, .int .i64 0] t2)).1
    simpa using this
  · rw [hB.block _ (by simp)]
    have := (MapKept.heap_alloc ((w.alloc (.cells #[.int .i64 n] t1)).alloc (.cells #[.int .i64 0, .int .i64 0] t2)) (.cells #[.int .i64 0] t3)).1
    simpa using this

set_option maxHeartbeats 1000000 in
set_option maxRecDepth 100000 in
theorem where_e1 (s : ByteArray) (a : Int) (w : World) (hs : s.size ≤ maxLen) (h : (M.fault s.data.toList).2 ≠ 0) :
    Calls Tryd.prog 7 #[.string s, .int .i64 a] w fun e w' => e = .returned (.tuple #[whV (0, 0), .int .i64 (M.fault s.data.toList).2]) ∧ Below w.heap.size w w' := by
  obtain ⟨p, c, hf⟩ : ∃ p c, M.fault s.data.toList = (p, c) := ⟨_, _, rfl⟩
  rw [hf] at h
  dsimp only at h
  have h3 : ((c : Int) == 0) = false := by rw [beq_eq_false_iff_ne]; omega
  have h4 : ((c : Int) != 0) = true := by rw [bne_iff_ne]; omega
  have HF := Lib.hid hf
  clear hf
  go_enter Tryd.func7, Tryd.ntmps7
  go_wp2_with fail
  refine (fault_any s _ hs).mono ?_
  rintro e w1 ⟨rfl, hB1⟩
  rw [HF.out]
  obtain ⟨r0, r1, r2, hB, hz1⟩ := wh_cells hB1
  have y0 : w1.cell? ⟨w.heap.size + 1, 0, none⟩ = some (.int .i64 0) := by rw [Lib.cell_of_heap r1]; rfl
  have y1 : w1.cell? ⟨w.heap.size + 1, 1, none⟩ = some (.int .i64 0) := by rw [Lib.cell_of_heap r1]; rfl
  have y2 : w1.cell? ⟨w.heap.size + 1 + 1, 0, none⟩ = some (.int .i64 0) := by rw [Lib.cell_of_heap r2]; rfl
  have f0 := Lib.frozen_of_heap r1 0
  have f1 := Lib.frozen_of_heap r1 1
  have f2 : w1.frozen? ⟨w.heap.size + 1 + 1, 0, none⟩ = false := Lib.frozen_of_heap r2 0
  have l1 : w.heap.size + 1 < w1.heap.size := by omega
  have l2 : w.heap.size + 1 + 1 < w1.heap.size := by omega
  clear hB1 r0 r1 r2
  dsimp only
  go_wp2_with fail
  refine bodyPost_ret (v := .tuple #[whV (0, 0), .int .i64 c]) (by simp [results, Tryd.results7, go_sem, y0, y1, y2]) rfl ⟨by rw [HF.out], ?_⟩
  exact ((hB.setCell (p := ⟨w.heap.size + 1, 0, none⟩) (by show w.heap.size ≤ w.heap.size + 1; omega) _).setCell (p := ⟨w.heap.size + 1, 1, none⟩) (by show w.heap.size ≤ w.heap.size + 1; omega) _).setCell (p := ⟨w.heap.size + 1 + 1, 0, none⟩) (by show w.heap.size ≤ w.heap.size + 1 + 1; omega) _

/-- What Where knows when it has found the place. -/
def WhIx (w : World) (s : ByteArray) (n : Int) (_ : List (Plc s.size)) (W : World) : Prop :=
  ∃ k : Nat, (k : Int) = n ∧ k ≤ s.size ∧ W.cell? ⟨w.heap.size + 1, 0, none⟩ = some (.int .i64 (M.lc s.data.toList k).1) ∧ W.cell? ⟨w.heap.size + 1, 1, none⟩ = some (.int .i64 (M.lc s.data.toList k).2) ∧ W.cell? ⟨w.heap.size + 2, 0, none⟩ = some (.int .i64 0) ∧ Below w.heap.size w W
theorem whIx_free (w : World) (s : ByteArray) (n : Int) (B : Nat) (hB : w.heap.size + 3 ≤ B) : FreeFrom B (WhIx w s n) := by
  rintro pre W W' hz ⟨k, h1, h2, h3, h4, h5, h6⟩ hb
  have hc : ∀ i j v, i < w.heap.size + 3 → W.cell? ⟨i, j, none⟩ = some v → W'.cell? ⟨i, j, none⟩ = some v := fun i j v hi hv => by rw [hb.cell (p := ⟨i, j, none⟩) (by show i < B; omega)]; exact hv
  exact ⟨k, h1, h2, hc _ _ _ (by omega) h3, hc _ _ _ (by omega) h4, hc _ _ _ (by omega) h5, h6.trans (hb.mono (by omega))⟩
/-- Between two rounds: none of the places that have come is the one that is looked for. -/
def WhI (w2 : World) (m : Nat) (n : Int) (pre : List (Plc m)) (W : World) : Prop := (∀ k, k ∈ pre → (k.1 : Int) ≠ n) ∧ Below w2.heap.size w2 W
theorem whI_free (w2 : World) (m : Nat) (n : Int) : FreeFrom w2.heap.size (WhI w2 m n) := fun _ _ _ _ h hb => ⟨h.1, h.2.trans hb⟩

/-- The loop's variables at a place. -/
def WhAx (w w1 w2 : World) (s : ByteArray) (n : Int) (p : Nat) (k : Plc s.size) (a' : Act) (W : World) : Prop :=
  ∃ Bx, w2.heap.size + 2 ≤ Bx ∧ W.heap[Bx]? = some (.cells #[.int .i64 (M.lc s.data.toList k).1, .int .i64 (M.lc s.data.toList k).2] 23 (0, 0)) ∧
    a' = { tmps := #[.string s, .int .i64 n, undef, .pointer (some ⟨w.heap.size, 0, none⟩), .pointer (some ⟨w.heap.size + 1, 0, none⟩), .pointer (some ⟨w.heap.size + 1 + 1, 0, none⟩), .int .i64 p, .int .i64 0, .int .i64 k.1, .pointer (some ⟨Bx, 0, none⟩), .tuple #[.int .i64 p, .int .i64 0], .string s, .tuple #[.int .i64 p, .int .i64 0], .int .i64 p, .int .i64 0, .int .i64 0, .bool false, undef, undef, .string s, .func (.func 35) #[] #[.pointer (some ⟨w1.heap.size, 0, none⟩)], .int .i64 k.1, whV (M.lc s.data.toList k.1), undef, undef, undef, undef, undef], defers := [] }
theorem whAx_put (w w1 w2 : World) (s : ByteArray) (n : Int) (p : Nat) (k : Plc s.size) (a' : Act) (W : World) (o : Obj) (h : WhAx w w1 w2 s n p k a' W) : WhAx w w1 w2 s n p k a' (W.putObj (w2.heap.size + 1) o) := by
  obtain ⟨Bx, h1, h2, h3⟩ := h
  exact ⟨Bx, h1, (World.putObj_heap_other (by omega)).trans h2, h3⟩
/-- Where, behind its loop: the rounds' deferred calls are none; the results are read. -/
theorem wh_end {n : Nat} {w U : World} {D : Nat} {tmps : Array Value} {r0 r1 r2 v : Value} {fn : Func} {Rr : Value}
    (hB : Below w.heap.size w U) (h1 : w.heap.size + 3 ≤ D) (d : U.heap[D]? = some (.deferred (some [])))
    (u0 : U.cell? ⟨w.heap.size + 1, 0, none⟩ = some r0) (u1 : U.cell? ⟨w.heap.size + 1, 1, none⟩ = some r1) (u2 : U.cell? ⟨w.heap.size + 1 + 1, 0, none⟩ = some r2)
    (hr : ∀ V : World, V.cell? ⟨w.heap.size + 1, 0, none⟩ = some r0 → V.cell? ⟨w.heap.size + 1, 1, none⟩ = some r1 → V.cell? ⟨w.heap.size + 1 + 1, 0, none⟩ = some r2 → (results fn tmps).run Tryd.prog V = .ok v V)
    (hv : v = Rr) :
    bodyPostM Fence.wide n Tryd.prog fn (fun e w' => e = .returned Rr ∧ Below w.heap.size w w') .ret { tmps := tmps, defers := [{ target := .collected D, args := #[] }] } U := by
  have e : ∀ j, j ≠ D → (U.putObj D (.deferred none)).heap[j]? = U.heap[j]? := fun j hj => World.putObj_heap_other hj
  have hc : ∀ i j, i ≠ D → (U.putObj D (.deferred none)).cell? ⟨i, j, none⟩ = U.cell? ⟨i, j, none⟩ := fun i j hi => World.cell?_of_block (w := U) (a := ⟨i, j, none⟩) (e i hi)
  refine ⟨by simp, .inl ⟨_, _, rfl, run_takeDeferred d, ?_⟩⟩
  refine ⟨v, ?_, by rw [hv], ?_⟩
  · exact hr _ ((hc _ _ (by omega)).trans u0) ((hc _ _ (by omega)).trans u1) ((hc _ _ (by omega)).trans u2)
  · exact hB.trans (below_put _ _ _ _ (by omega))

attribute [local go_sem] Oper.semAt_some

set_option maxHeartbeats 4000000 in
set_option maxRecDepth 100000 in
theorem where_ok (s : ByteArray) (n : Int) (w : World) (h : (M.fault s.data.toList).2 = 0) :
    Calls Tryd.prog 7 #[.string s, .int .i64 n] w fun e w' => e = .returned (.tuple #[whV (M.whereR s n).1, .int .i64 (M.whereR s n).2]) ∧ Below w.heap.size w w' := by
  have hsm : s.size ≤ 2500 := by rw [← M.size_list]; exact M.fault_small s.data.toList h
  have hno : (∀ k, k ∈ List.range (s.size + 1) → (k : Int) ≠ n) → M.whereR s n = ((0, 0), 3) := by
    intro hk
    unfold M.whereR
    rw [if_neg (by rw [h]; simp), if_pos]
    rcases Int.lt_or_le n 0 with q | q
    · exact Or.inl q
    · refine Or.inr ?_
      rcases Int.lt_or_le (s.size : Int) n with q2 | q2
      · exact q2
      · exact absurd (by omega) (hk n.toNat (List.mem_range.2 (by omega)))
  have hyes : ∀ k : Nat, (k : Int) = n → k ≤ s.size → M.whereR s n = (M.lc s.data.toList k, 0) := by
    intro k e hk
    unfold M.whereR
    rw [if_neg (by rw [h]; simp), if_neg (by omega), ← e, Int.toNat_natCast]
  obtain ⟨p, c, hf⟩ : ∃ p c, M.fault s.data.toList = (p, c) := ⟨_, _, rfl⟩
  rw [hf] at h
  dsimp only at h
  subst h
  have HF := Lib.hid hf
  have HNO := Lib.hid hno
  have HYES := Lib.hid hyes
  clear hf hno hyes
  refine (callsIn_wide (n := 9)).1 ?_
  refine callsIn_of_wp_marks Tryd.func7 rfl trivial ?_ rfl
  simp only [Tryd.ntmps7, List.size_toArray, List.length_cons, List.length_nil, Nat.reduceAdd, Nat.reduceSub, Array.replicate_succ, Array.replicate_zero, List.push_toArray, List.append_toArray, List.nil_append, List.cons_append]
  gi_wp2_with fail
  refine ⟨trivial, callsIn_wide.2 ((fault_any s _ (by unfold maxLen; omega)).mono ?_)⟩
  rintro e w1 ⟨rfl, hB1⟩
  rw [HF.out]
  dsimp only
  gi_wp2_with fail
  refine ⟨trivial, callsIn_wide.2 ((places_any s _).mono ?_)⟩
  rintro e w2 ⟨rfl, hw2⟩
  gi_wp2_with fail
  rw [← hw2]
  obtain ⟨r0, r1, r2, hB, hz1⟩ := wh_cells hB1
  have hz2 : w2.heap.size = w1.heap.size + 1 := by rw [hw2]; simp
  have hcs : w2.cell? ⟨w1.heap.size, 0, none⟩ = some (.string s) := by rw [hw2, World.cell?_alloc_at _ _ _ _ rfl]; rfl
  have hB12 : Below w1.heap.size w1 w2 := by rw [hw2]; exact below1 _ _
  replace r0 := (hB12.block _ (by omega)).trans r0
  replace r1 := (hB12.block _ (by omega)).trans r1
  replace r2 := (hB12.block _ (by omega)).trans r2
  replace hB := below2 hB hB12
  have R0 := Lib.hid r0
  have R1 := Lib.hid r1
  have R2 := Lib.hid r2
  clear r0 r1 r2 hB1 hw2 hB12
  refine wpIn_range_free (α := Plc s.size) rfl (by omega) (gf := 35) (lb := #[.pointer (some ⟨w1.heap.size, 0, none⟩)]) rfl trivial enters_places1
    (places_stops 8 w1.heap.size s w2 (by omega) (by omega) (by omega) hcs) (fun _ => rfl) (WhI w2 s.size n) (WhIx w s n) (whI_free w2 s.size n) (whIx_free w s n w2.heap.size (by omega))
    ⟨fun k hk => by simp at hk, Below.refl _ _⟩ (WhAx w w1 w2 s n p) (fun k a' W o _ h => whAx_put _ _ _ _ _ _ _ _ _ _ h) ?assign ?body ?done ?stop
  case assign =>
    intro l pre k W K hz hI hK
    have hK' := Lib.hid hK
    clear hK
    gi_wp2_with fail
    exact hK'.out _ _ (below1 _ _) ⟨W.heap.size, hz, (MapKept.heap_alloc W _).1, rfl⟩
  case body =>
    rintro l pre ⟨k, hk⟩ a' W hz ⟨hne, hBW⟩ ⟨Bx, hBx, hbx, rfl⟩ hlen
    dsimp only at hbx ⊢
    have r0 := (hBW.block w.heap.size (by omega)).trans R0.out
    have r1 := (hBW.block (w.heap.size + 1) (by omega)).trans R1.out
    have r2 := (hBW.block (w.heap.size + 1 + 1) (by omega)).trans R2.out
    have hBf : Below w.heap.size w W := below2 hB hBW
    have c0 : W.cell? ⟨w.heap.size, 0, none⟩ = some (.int .i64 n) := by rw [Lib.cell_of_heap r0]; rfl
    have x0 : W.cell? ⟨Bx, 0, none⟩ = some (.int .i64 (M.lc s.data.toList k).1) := by rw [Lib.cell_of_heap hbx]; rfl
    have x1 : W.cell? ⟨Bx, 1, none⟩ = some (.int .i64 (M.lc s.data.toList k).2) := by rw [Lib.cell_of_heap hbx]; rfl
    have HNE := Lib.hid hne
    clear hne r0 hbx
    by_cases hkn : (k : Int) = n
    · have e1 : ((k : Int) == n) = true := by rw [hkn]; exact beq_self_eq_true _
      have y0 : W.cell? ⟨w.heap.size + 1, 0, none⟩ = some (.int .i64 0) := by rw [Lib.cell_of_heap r1]; rfl
      have y1 : W.cell? ⟨w.heap.size + 1, 1, none⟩ = some (.int .i64 0) := by rw [Lib.cell_of_heap r1]; rfl
      have y2 : W.cell? ⟨w.heap.size + 1 + 1, 0, none⟩ = some (.int .i64 0) := by rw [Lib.cell_of_heap r2]; rfl
      have f0 := Lib.frozen_of_heap r1 0
      have f1 := Lib.frozen_of_heap r1 1
      have f2 := Lib.frozen_of_heap r2 0
      have l1 : w.heap.size + 1 < W.heap.size := by omega
      have l2 : w.heap.size + 1 + 1 < W.heap.size := by omega
      have HKN := Lib.hid hkn
      clear hkn r1 r2
      gi_wp2_with fail
      have hb3 : ∀ j, j ≠ w.heap.size + 1 → j ≠ w.heap.size + 1 + 1 → ∀ u v z, (((W.setCell ⟨w.heap.size + 1, 0, none⟩ u).setCell ⟨w.heap.size + 1, 1, none⟩ v).setCell ⟨w.heap.size + 1 + 1, 0, none⟩ z).heap[j]? = W.heap[j]? := fun j h1 h2 u v z => by
        rw [Below.heap_setCell _ _ _ _ h2, Below.heap_setCell _ _ _ _ h1, Below.heap_setCell _ _ _ _ h1]
      refine ⟨by simp, hb3 _ (by omega) (by omega) _ _ _, hb3 _ (by omega) (by omega) _ _ _, k, HKN.out, hk, ?_, ?_, ?_, ?_⟩
      · simp [go_sem, y0]
      · simp [go_sem, y1]
      · simp [go_sem, y2]
      · exact ((hBf.setCell (p := ⟨w.heap.size + 1, 0, none⟩) (by show w.heap.size ≤ w.heap.size + 1; omega) _).setCell (p := ⟨w.heap.size + 1, 1, none⟩) (by show w.heap.size ≤ w.heap.size + 1; omega) _).setCell (p := ⟨w.heap.size + 1 + 1, 0, none⟩) (by show w.heap.size ≤ w.heap.size + 1 + 1; omega) _
    · have e1 : ((k : Int) == n) = false := by rw [beq_eq_false_iff_ne]; exact hkn
      clear r1 r2
      gi_wp2_with fail
      refine ⟨Below.refl _ _, fun j hj => ?_, hBW⟩
      rcases List.mem_append.1 hj with hj | hj
      · exact HNE.out j hj
      · rw [List.mem_singleton] at hj; subst hj; exact hkn
  case done =>
    rintro xs W hz hxs ⟨hne, hBW⟩ hDef
    have hres := HNO.out (fun k hk => by
      rw [← hxs] at hk
      obtain ⟨y, hy, rfl⟩ := List.mem_map.1 hk
      exact hne y hy)
    have r1 := (hBW.block (w.heap.size + 1) (by omega)).trans R1.out
    have r2 := (hBW.block (w.heap.size + 1 + 1) (by omega)).trans R2.out
    have hBf : Below w.heap.size w W := below2 hB hBW
    have y0 : W.cell? ⟨w.heap.size + 1, 0, none⟩ = some (.int .i64 0) := by rw [Lib.cell_of_heap r1]; rfl
    have y1 : W.cell? ⟨w.heap.size + 1, 1, none⟩ = some (.int .i64 0) := by rw [Lib.cell_of_heap r1]; rfl
    have y2 : W.cell? ⟨w.heap.size + 1 + 1, 0, none⟩ = some (.int .i64 0) := by rw [Lib.cell_of_heap r2]; rfl
    have f0 := Lib.frozen_of_heap r1 0
    have f1 := Lib.frozen_of_heap r1 1
    have f2 := Lib.frozen_of_heap r2 0
    have l1 : w.heap.size + 1 < W.heap.size := by omega
    have l2 : w.heap.size + 1 + 1 < W.heap.size := by omega
    have HRES := Lib.hid hres
    have HDEF := Lib.hid hDef
    clear hres hxs hne r1 r2 hDef
    gi_wp2_with fail
    obtain ⟨U, hU⟩ : ∃ U, (((W.setCell ⟨w.heap.size + 1, 0, none⟩ (.int .i64 0)).setCell ⟨w.heap.size + 1, 1, none⟩ (.int .i64 0)).setCell ⟨w.heap.size + 1 + 1, 0, none⟩ (.int .i64 3)) = U := ⟨_, rfl⟩
    have d : U.heap[w2.heap.size]? = some (.deferred (some [])) := by
      rw [← hU, Below.heap_setCell _ _ _ _ (by show w2.heap.size ≠ w.heap.size + 1 + 1; omega), Below.heap_setCell _ _ _ _ (by show w2.heap.size ≠ w.heap.size + 1; omega), Below.heap_setCell _ _ _ _ (by show w2.heap.size ≠ w.heap.size + 1; omega)]; exact HDEF.out
    have u0 : U.cell? ⟨w.heap.size + 1, 0, none⟩ = some (.int .i64 0) := by rw [← hU]; simp [go_sem, y0]
    have u1 : U.cell? ⟨w.heap.size + 1, 1, none⟩ = some (.int .i64 0) := by rw [← hU]; simp [go_sem, y1]
    have u2 : U.cell? ⟨w.heap.size + 1 + 1, 0, none⟩ = some (.int .i64 3) := by rw [← hU]; simp [go_sem, y2]
    have hBU : Below w.heap.size w U := by
      rw [← hU]
      exact ((hBf.setCell (p := ⟨w.heap.size + 1, 0, none⟩) (by show w.heap.size ≤ w.heap.size + 1; omega) _).setCell (p := ⟨w.heap.size + 1, 1, none⟩) (by show w.heap.size ≤ w.heap.size + 1; omega) _).setCell (p := ⟨w.heap.size + 1 + 1, 0, none⟩) (by show w.heap.size ≤ w.heap.size + 1 + 1; omega) _
    rw [hU]
    exact wh_end (v := .tuple #[whV (0, 0), .int .i64 3]) hBU (by omega) d u0 u1 u2 (fun V v0 v1 v2 => by simp [results, Tryd.results7, go_sem, v0, v1, v2]) (by rw [HRES.out]; rfl)
  case stop =>
    rintro pre W hz ⟨k, hk, hks, c0, c1, c2, hBf⟩ hDef
    have hres := HYES.out k hk hks
    have HRES := Lib.hid hres
    have HDEF := Lib.hid hDef
    clear hres hDef hk
    gi_wp2_with fail
    exact wh_end (v := .tuple #[whV (M.lc s.data.toList k), .int .i64 0]) hBf (by omega) HDEF.out c0 c1 c2 (fun V v0 v1 v2 => by simp [results, Tryd.results7, go_sem, v0, v1, v2]) (by rw [HRES.out]; rfl)
theorem where_any (s : ByteArray) (n : Int) (w : World) (hs : s.size ≤ maxLen) :
    Calls Tryd.prog 7 #[.string s, .int .i64 n] w fun e w' => e = .returned (.tuple #[whV (M.whereR s n).1, .int .i64 (M.whereR s n).2]) ∧ Below w.heap.size w w' := by
  by_cases h : (M.fault s.data.toList).2 = 0
  · exact where_ok s n w h
  · have hr : M.whereR s n = ((0, 0), (M.fault s.data.toList).2) := by unfold M.whereR; rw [if_pos h]
    rw [hr]
    exact where_e1 s n w hs h
end Go.Proofs.YtamdcloahkacnaaDoor
