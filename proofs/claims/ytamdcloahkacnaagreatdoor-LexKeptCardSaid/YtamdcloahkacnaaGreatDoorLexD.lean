/- DERIVED. Contracts of layer 1: the reader of tokens is made. -/
import Derived.Test.YtamdcloahkacnaaGreatDoorLexC
import Derived.Maps.Own
import Derived.Maps.OwnOps
import Derived.Maps.Views
namespace Go.Proofs.YtamdcloahkacnaaGreatDoor
open Go.RowKit Go.WideMaps Go.Maps

theorem law9 : Keyed Tryz.prog 9 := string_keyed Tryz.underlying9
theorem zero4 (w : World) : (zeroValue 4).run Tryz.prog w = .ok (.bool false) w := by kernel_rfl

/-- The keywords as a map, after some of them. -/
def kwD (k : Nat) : DataW Unit := (M.kwords.take k).foldl (fun D x => D.put (.string x) (.lit (.bool true))) (.map [])
theorem kwD_step (k : Nat) (hk : k < M.kwords.length) : kwD (k + 1) = (kwD k).put (.string M.kwords[k]) (.lit (.bool true)) := by
  unfold kwD
  rw [List.take_succ_eq_append_getElem hk, List.foldl_append]; rfl

theorem plainElem_bool_inv' {P : Program} {e : TypeId} (he : P.underlying e = some .bool) {v : Value} {x : DataW Unit × List MemPlace} (h : plainElem P e v = some x) : ∃ c, v = .bool c ∧ x = (.lit (.bool c), []) := by
  cases v <;> simp [plainElem, he] at h
  exact ⟨_, rfl, h.symm⟩
theorem lookup_bool {P : Program} {w : World} {k b n : Nat} {D : DataW Unit} {t e : TypeId} (h : w.ownsMap P k (plainElem P e) b n D) (K : Keyed P k) (ht : P.underlying t = some (.map k e)) (he : P.underlying e = some .bool) (hz : (zeroValue e).run P w = .ok (.bool false) w)
    {key : Value} {kl : Lit} (hkey : keyOf P k key = some kl) : ∃ c, (Instr.lookup t (.map (some b)) key false).run P w = .ok (.bool c) w ∧ D.atKey kl (.lit (.bool false)) = .lit (.bool c) := by
  obtain ⟨v, ps, hrun, hv⟩ := h.lookup K ht hz (zd := .lit (.bool false)) (zp := []) (by simp [plainElem, he]) hkey
  obtain ⟨c, rfl, hc⟩ := plainElem_bool_inv' he hv
  simp only [Prod.mk.injEq] at hc
  exact ⟨c, hrun, hc.1⟩

/-- A reader as it lies in memory: its map, its list of signs. -/
structure RdAt (w : World) (bm bs : Nat) : Prop where
  map : w.ownsMap Tryz.prog 9 (plainElem Tryz.prog 4) bm 28 (kwD 28)
  lt : bm < w.heap.size
  signs : StrsAt w bs M.signs
theorem RdAt.below {w w' : World} {bm bs : Nat} (h : RdAt w bm bs) (hb : Below w.heap.size w w') : RdAt w' bm bs := by
  obtain ⟨es, clock, h1, F, s, D⟩ := h.map
  exact ⟨⟨es, clock, (hb.block bm h.lt).trans h1, F, s, D⟩, Nat.lt_of_lt_of_le h.lt hb.size, h.signs.below hb⟩
/-- A reader as a value. -/
abbrev rdV (bm bs : Nat) : Value := .agg #[.map (some bm), .slice (some ⟨bs, 0, none⟩) 22 22]


/-- What stands when the loop begins. -/
theorem new_parts {w w1 w2 : World} {o : Obj} {x y : Value} (hs1 : StrsAt w1 ((w.alloc o).alloc (Obj.map #[] 0)).heap.size M.signs) (hB1 : Below ((w.alloc o).alloc (Obj.map #[] 0)).heap.size ((w.alloc o).alloc (Obj.map #[] 0)) w1)
    (hB2 : Below (w1.alloc (.cells #[x, y] 59)).heap.size (w1.alloc (.cells #[x, y] 59)) w2) :
    w2.ownsMap Tryz.prog 9 (plainElem Tryz.prog 4) (w.heap.size + 1) 0 (kwD 0) ∧ w2.cell? ⟨w1.heap.size, 0, none⟩ = some x ∧ w2.cell? ⟨w1.heap.size, 1, none⟩ = some y ∧ StrsAt w2 (w.heap.size + 2) M.signs ∧
    w.heap.size + 2 < w1.heap.size ∧ w1.heap.size < w2.heap.size ∧ Below w.heap.size w w2 ∧ w2.heap[w.heap.size]? = some o := by
  have z1 := hB1.size
  have z2 := hB2.size
  have zs := hs1.1
  simp at z1 z2 zs
  have b1 : w1.heap[w.heap.size + 1]? = some (Obj.map #[] 0) := by
    rw [hB1.block _ (by simp)]; have := (MapKept.heap_alloc (w.alloc o) (Obj.map #[] 0)).1; simpa using this
  have b2 : w2.heap[w.heap.size + 1]? = some (Obj.map #[] 0) := by
    rw [hB2.block _ (by simp; omega), Below.heap_alloc _ _ _ (by omega)]; exact b1
  have b0 : w2.heap[w.heap.size]? = some o := by
    rw [hB2.block _ (by simp; omega), Below.heap_alloc _ _ _ (by omega), hB1.block _ (by simp; omega), Below.heap_alloc _ _ _ (by simp)]; exact (MapKept.heap_alloc w _).1
  refine ⟨by obtain ⟨es, clock, h1, F, s, D⟩ := World.ownsMap_made (H := Unit) (w.alloc o) Tryz.prog 9 (plainElem Tryz.prog 4); exact ⟨es, clock, (b2.trans (by have := (MapKept.heap_alloc (w.alloc o) (Obj.map #[] 0)).1; simpa using this.symm)).trans h1, F, s, D⟩, ?_, ?_, ?_, by omega, by omega, ?_, b0⟩
  · rw [hB2.cell (by simp), World.cell?_alloc_at _ _ _ _ rfl]; rfl
  · rw [hB2.cell (by simp), World.cell?_alloc_at _ _ _ _ rfl]; rfl
  · refine ⟨by omega, fun i hi => ?_⟩
    rw [hB2.cell (by simp; omega), World.cell?_alloc_past _ _ _ (by show _ < _; omega)]
    have := hs1.2 i hi
    simpa using this
  · exact ((((Below.refl _ _).alloc (Nat.le_refl _) _).alloc (by simp) _).trans (hB1.mono (by simp; omega))).trans ((((Below.refl _ _).alloc (by omega) _)).trans (hB2.mono (by simp; omega)))

theorem RdAt.other {w w' : World} {bm bs n : Nat} (h : RdAt w bm bs) (hz : w.heap.size ≤ w'.heap.size) (hb : ∀ k, k ≠ n → w'.heap[k]? = w.heap[k]?) (h1 : bm ≠ n) (h2 : bs ≠ n) : RdAt w' bm bs := by
  obtain ⟨es, clock, h0, F, s, D⟩ := h.map
  exact ⟨⟨es, clock, (hb bm h1).trans h0, F, s, D⟩, Nat.lt_of_lt_of_le h.lt hz, Nat.lt_of_lt_of_le h.signs.1 hz, fun i hi => by rw [World.cell?_of_block (w := w) (hb bs h2)]; exact h.signs.2 i hi⟩

set_option maxHeartbeats 1000000 in
set_option maxRecDepth 100000 in
theorem newReader_any (w : World) :
    Calls Tryz.prog 24 #[] w fun e w' => ∃ bm bs, e = .returned (rdV bm bs) ∧ RdAt w' bm bs ∧ Below w.heap.size w w' := by
  have hmm := @run_makeMap Tryz.prog
  go_enter Tryz.func24, Tryz.ntmps24
  go_wp2_with fail
  refine (signs_any _).mono ?_
  rintro e w1 ⟨rfl, hs1, hB1⟩
  go_wp2_with fail
  refine (keywords_any _).mono ?_
  rintro e w2 ⟨rfl, hs2, hB2⟩
  have HP := new_parts hs1 hB1 hB2
  have HS2 := Lib.hid hs2
  clear hs1 hs2 hB1 hB2
  obtain ⟨hm0, hc0, hc1, hs1, hz1, hz2, hB, hb0⟩ := HP
  have hk := HS2.out
  simp at hk
  clear HS2
  go_wp2_with fail
  go_loopw [3, 9, 10, 11, 12, 13, 14, 15, 16] (fun _ i _ _ _ _ _ _ _ wr => ∃ k : Nat, k ≤ 28 ∧ i = .int .i64 k ∧ wr.ownsMap Tryz.prog 9 (plainElem Tryz.prog 4) (w.heap.size + 1) k (kwD k) ∧ w2.grownBy wr (some (w.heap.size + 1))) (fun _ i _ _ _ _ _ _ _ _ => 28 - (intOf i).toNat)
  case atStart => exact ⟨0, by omega, rfl, hm0, World.grownBy.refl _ _⟩
  case round =>
    rename_i wr
    obtain ⟨k, hk28, rfl, hown, hg⟩ := hrel
    have hr0 := hg.cell hc0 (by simp; omega)
    have hr1 := hg.cell hc1 (by simp; omega)
    clear hc0 hc1 hm0
    by_cases hlt : k < 28
    · have hcx := hg.cell (hk.2 k hlt) (by simp; omega)
      have hkey : keyOf Tryz.prog 9 (.string (M.str M.kwords[k])) = some (.string M.kwords[k]) := keyOf_string_mk Tryz.underlying9 (by rw [M.str_size]; have := M.kw_short k hlt; unfold maxLen; omega)
      go_wp2_with (first
        | (at_mapUpdate; refine wpList_mapUpdate_own _ rfl _ _ _ 56 rfl 9 4 law9 Tryz.underlying56 _ (w.heap.size + 1) k _ rfl hown (by unfold maxLen; omega) _ _ _ rfl rfl hkey (.lit (.bool true)) [] (plainElem_bool Tryz.underlying4 true) ?_))
      intro w3 hown3 hg3
      have R1 := (kwD_step k hlt).symm ▸ hown3
      have R2 : w2.grownBy w3 (some (w.heap.size + 1)) := ⟨hg3.os.trans hg.os, hg3.tape.trans hg.tape, hg3.output.trans hg.output, Nat.le_trans hg.size hg3.size, fun j hj hne => (hg3.block j (Nat.lt_of_lt_of_le hj hg.size) hne).trans (hg.block j hj hne)⟩
      clear hown3 hg3 hown hg hkey
      go_wp2
      go_roundw
      case rel => exact ⟨k + 1, by omega, by go_num, R1, R2⟩
      case measure => simp [intOf]; omega
    · obtain rfl : k = 28 := by omega
      have hbN : wr.heap[w.heap.size]? = some (Obj.cells #[Value.map none, Value.slice none 0 0] 59) := (hg.block _ (by omega) (by simp)).trans hb0
      have c0 : wr.cell? ⟨w.heap.size, 0, none⟩ = some (.map none) := by simp [World.cell?, hbN]
      have c1 : wr.cell? ⟨w.heap.size, 1, none⟩ = some (.slice none 0 0) := by simp [World.cell?, hbN]
      have f0 : wr.frozen? ⟨w.heap.size, 0, none⟩ = false := by simp [World.frozen?, hbN]
      have f1 : wr.frozen? ⟨w.heap.size, 1, none⟩ = false := by simp [World.frozen?, hbN]
      have HBN := Lib.hid hbN
      have HB0 := Lib.hid hb0
      clear hbN hb0
      have hn : w.heap.size ≠ w1.heap.size := by omega
      go_wp2_with fail
      have hz := hg.size
      refine bodyPost_ret (v := rdV (w.heap.size + 1) (w.heap.size + 2)) (by simp [results, Tryz.results24, go_sem, c0, c1]) rfl ⟨_, _, rfl, ?_, ?_⟩
      · refine RdAt.other (w := wr) (n := w.heap.size) ⟨hown, by omega, ⟨by omega, fun i hi => ?_⟩⟩ (by simp [World.setCell]) (fun k hk => ?_) (by omega) (by omega)
        · exact hg.cell (hs1.2 i hi) (by simp)
        · rw [Below.heap_setCell _ _ _ _ hk, Below.heap_setCell _ _ _ _ hk]
      · exact ((hB.grown hg (by omega) (fun k e => by cases e; omega)).setCell (p := ⟨w.heap.size, 0, none⟩) (Nat.le_refl _) _).setCell (p := ⟨w.heap.size, 1, none⟩) (Nat.le_refl _) _
end Go.Proofs.YtamdcloahkacnaaGreatDoor
