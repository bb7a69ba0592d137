/- DERIVED. A table that is made anew, element by element. -/
import Derived.Test.YtnhnjfoboepffaaOrdGaC
import Derived.Test.YtnhnjfoboepffaaGr20
import Derived.Test.YtnhnjfoboepffaaBasNC
namespace Go.Proofs.Ytnhnjfoboepffaa
open Go.RowKit

/-- What the statement's table in another order comes to. -/
def TurnPost (t : M.Tb) (w : World) (e : Ending) (w' : World) : Prop :=
  ∃ f g p' B c, M.Inv t.elems.length f g ∧ e = .returned (.tuple #[tbV (M.trn t f) p', .slice (some ⟨B, 0, none⟩) t.elems.length c]) ∧ TbIn w' (M.trn t f) p' ∧ (∀ i, i < t.elems.length → w'.cell? ⟨B, i, none⟩ = some (.int .i64 (g i : Nat))) ∧ Below w.heap.size w w'
theorem cel_one' {α : Type} {f : α → Value} {w : World} {b : Nat} {x : α} {e : TypeId} (h : w.heap[b]? = some (.cells #[f x] e (0, 0))) : CelSl f w (some ⟨b, 0, none⟩) [x] :=
  Or.inr ⟨b, 0, rfl, heap_lt h, fun i hi => by
    have : i = 0 := by simpa using hi
    subst this
    rw [Lib.cell_of_heap h]; rfl⟩
theorem NestQ.weaken {α : Type} {ok ok' : Nat → Prop} {f : α → Value} {w : World} {base : Nat} {e : TypeId} {v : Value} {rows : List (List α)} (h : NestQ ok f w base e v rows) (hm : ∀ b, b < w.heap.size → ok b → ok' b) : NestQ ok' f w base e v rows := by
  obtain ⟨vals, k1, k2⟩ := h
  refine ⟨vals, k1, fun i hi => ?_⟩
  obtain ⟨a, c, q1, q2, q3, q4⟩ := k2 i hi
  refine ⟨a, c, q1, q2, q3, ?_⟩
  rcases q4 with q | ⟨b, off, r1, r2, r3, r4⟩
  · exact Or.inl q
  · exact Or.inr ⟨b, off, r1, r2, hm b r4.lt r3, r4⟩
/-- A table that is being made: its lists, and what stands in its box. -/
structure TnL (nm : ByteArray) (w0 : World) (N B : Nat) (E : List ByteArray) (Wl : List Bool) (rows : List (List Int)) (bs bv br s v r : Value) (w : World) : Prop where
  nz : N ≤ w0.heap.size
  below : Below N w0 w
  hB : N ≤ B
  bx : w.heap[B]? = some (.cells #[.string nm, bs, bv, br] 26 (0, 0))
  so : w.ownsRow N 9 1 s E.length (E.map .string)
  ro : w.ownsRow N 4 1 r Wl.length (Wl.map .bool)
  nst : NestQ (fun b => N ≤ b ∧ b ≠ B ∧ some b ≠ s.ownBlock ∧ some b ≠ r.ownBlock) (Value.int .i64) w N 37 v rows
  ds : ∀ g, s.ownBlock = some g → some g ≠ r.ownBlock ∧ some g ≠ v.ownBlock ∧ g ≠ B
  dr : ∀ g, r.ownBlock = some g → some g ≠ v.ownBlock ∧ g ≠ B
  dv : ∀ g, v.ownBlock = some g → g ≠ B
section
variable {nm : ByteArray} {w0 : World} {N B : Nat} {E E' : List ByteArray} {Wl Wl' : List Bool} {rows rows' : List (List Int)} {bs bv br s v r s' v' r' : Value} {w w' : World}
theorem TnL.le (h : TnL nm w0 N B E Wl rows bs bv br s v r w) : N ≤ w.heap.size := Nat.le_trans h.nz h.below.size
theorem TnL.bxc (h : TnL nm w0 N B E Wl rows bs bv br s v r w) : w.cell? ⟨B, 1, none⟩ = some bs ∧ w.cell? ⟨B, 3, none⟩ = some br := ⟨by rw [Lib.cell_of_heap h.bx]; rfl, by rw [Lib.cell_of_heap h.bx]; rfl⟩
theorem TnL.fz (h : TnL nm w0 N B E Wl rows bs bv br s v r w) (k : Nat) : w.frozen? ⟨B, k, none⟩ = false := Lib.frozen_of_heap h.bx k
theorem TnL.new (h : TnL nm w0 N B E Wl rows bs bv br s v r w) (hB : Below w.heap.size w w') : TnL nm w0 N B E Wl rows bs bv br s v r w' :=
  ⟨h.nz, h.below.trans (hB.mono h.le), h.hB, by rw [hB.block B (heap_lt h.bx)]; exact h.bx, own_below h.so hB, own_below h.ro hB, h.nst.kept hB.size (fun g hg => hB.block g (nest_lt h.nst hg).2) (fun b hb _ => hB.block b hb), h.ds, h.dr, h.dv⟩
/-- The elements have grown. -/
theorem TnL.gs (h : TnL nm w0 N B E Wl rows bs bv br s v r w) (ho : w'.ownsRow N 9 1 s' E'.length (E'.map .string)) (hg : w.grownBy w' s.ownBlock) (hb : s'.ownBlock = s.ownBlock ∨ s'.ownBlock = some w.heap.size) : TnL nm w0 N B E' Wl rows bs bv br s' v r w' := by
  have hk := hg.block
  have hne : ∀ b, b < w.heap.size → some b ≠ s.ownBlock → some b ≠ s'.ownBlock := fun b hb' hn e => by
    rcases hb with q | q
    · rw [q] at e; exact hn e
    · rw [q] at e
      have : b = w.heap.size := by injection e
      omega
  refine ⟨h.nz, h.below.grown hg h.le (fun k hk => (own_lt h.so hk).1), h.hB, ?_, ho, own_same h.ro fun g hg' => hk g (own_lt h.ro hg').2 (fun e => (h.ds g e.symm).1 hg'.symm), ?_, fun g hg' => ?_, h.dr, h.dv⟩
  · rw [hk B (heap_lt h.bx) (fun e => (h.ds B e.symm).2.2 rfl)]; exact h.bx
  · have h1 := (h.nst.weaken (ok' := fun b => (N ≤ b ∧ b ≠ B ∧ some b ≠ s.ownBlock ∧ some b ≠ r.ownBlock) ∧ some b ≠ s'.ownBlock) (fun b hb' hok => ⟨hok, hne b hb' hok.2.2.1⟩)).kept (w' := w') hg.size (fun g hg' => hk g (nest_lt h.nst hg').2 (fun e => (h.ds g e.symm).2.1 hg'.symm)) (fun b hb' hok => hk b hb' hok.1.2.2.1)
    exact h1.weaken (fun b _ hok => ⟨hok.1.1, hok.1.2.1, hok.2, hok.1.2.2.2⟩)
  · rcases hb with q | q
    · rw [q] at hg'; exact h.ds g hg'
    · rw [q] at hg'
      have e : w.heap.size = g := by injection hg'
      subst e
      refine ⟨fun e => ?_, fun e => ?_, fun e => ?_⟩
      · have := (own_lt h.ro e.symm).2; omega
      · have := (nest_lt h.nst e.symm).2; omega
      · have := heap_lt h.bx; omega
/-- The marks have grown. -/
theorem TnL.gr (h : TnL nm w0 N B E Wl rows bs bv br s v r w) (ho : w'.ownsRow N 4 1 r' Wl'.length (Wl'.map .bool)) (hg : w.grownBy w' r.ownBlock) (hb : r'.ownBlock = r.ownBlock ∨ r'.ownBlock = some w.heap.size) : TnL nm w0 N B E Wl' rows bs bv br s v r' w' := by
  have hk := hg.block
  have hne : ∀ b, b < w.heap.size → some b ≠ r.ownBlock → some b ≠ r'.ownBlock := fun b hb' hn e => by
    rcases hb with q | q
    · rw [q] at e; exact hn e
    · rw [q] at e
      have : b = w.heap.size := by injection e
      omega
  refine ⟨h.nz, h.below.grown hg h.le (fun k hk => (own_lt h.ro hk).1), h.hB, ?_, own_same h.so fun g hg' => hk g (own_lt h.so hg').2 (fun e => (h.ds g hg').1 e), ho, ?_, fun g hg' => ?_, fun g hg' => ?_, h.dv⟩
  · rw [hk B (heap_lt h.bx) (fun e => (h.dr B e.symm).2 rfl)]; exact h.bx
  · have h1 := (h.nst.weaken (ok' := fun b => (N ≤ b ∧ b ≠ B ∧ some b ≠ s.ownBlock ∧ some b ≠ r.ownBlock) ∧ some b ≠ r'.ownBlock) (fun b hb' hok => ⟨hok, hne b hb' hok.2.2.2⟩)).kept (w' := w') hg.size (fun g hg' => hk g (nest_lt h.nst hg').2 (fun e => (h.dr g e.symm).1 hg'.symm)) (fun b hb' hok => hk b hb' hok.1.2.2.2)
    exact h1.weaken (fun b _ hok => ⟨hok.1.1, hok.1.2.1, hok.1.2.2.1, hok.2⟩)
  · obtain ⟨k1, k2, k3⟩ := h.ds g hg'
    exact ⟨hne g (own_lt h.so hg').2 k1, k2, k3⟩
  · rcases hb with q | q
    · rw [q] at hg'; exact h.dr g hg'
    · rw [q] at hg'
      have e : w.heap.size = g := by injection hg'
      subst e
      refine ⟨fun e => ?_, fun e => ?_⟩
      · have := (nest_lt h.nst e.symm).2; omega
      · have := heap_lt h.bx; omega
/-- The list of lists has grown. -/
theorem TnL.gv (h : TnL nm w0 N B E Wl rows bs bv br s v r w) (hn : NestQ (fun b => N ≤ b ∧ b ≠ B ∧ some b ≠ s.ownBlock ∧ some b ≠ r.ownBlock) (Value.int .i64) w' N 37 v' rows') (hg : w.grownBy w' v.ownBlock) (hb : v'.ownBlock = v.ownBlock ∨ v'.ownBlock = some w.heap.size) : TnL nm w0 N B E Wl rows' bs bv br s v' r w' := by
  have hk := hg.block
  have hne : ∀ b, b < w.heap.size → some b ≠ v.ownBlock → some b ≠ v'.ownBlock := fun b hb' hn e => by
    rcases hb with q | q
    · rw [q] at e; exact hn e
    · rw [q] at e
      have : b = w.heap.size := by injection e
      omega
  refine ⟨h.nz, h.below.grown hg h.le (fun k hk => (nest_lt h.nst hk).1), h.hB, ?_, own_same h.so fun g hg' => hk g (own_lt h.so hg').2 (h.ds g hg').2.1, own_same h.ro fun g hg' => hk g (own_lt h.ro hg').2 (h.dr g hg').1, hn, fun g hg' => ?_, fun g hg' => ?_, fun g hg' => ?_⟩
  · rw [hk B (heap_lt h.bx) (fun e => h.dv B e.symm rfl)]; exact h.bx
  · obtain ⟨k1, k2, k3⟩ := h.ds g hg'
    exact ⟨k1, hne g (own_lt h.so hg').2 k2, k3⟩
  · obtain ⟨k1, k2⟩ := h.dr g hg'
    exact ⟨hne g (own_lt h.ro hg').2 k1, k2⟩
  · rcases hb with q | q
    · rw [q] at hg'; exact h.dv g hg'
    · rw [q] at hg'
      have e : w.heap.size = g := by injection hg'
      have := heap_lt h.bx; omega
/-- A cell of the box is written. -/
theorem TnL.box (h : TnL nm w0 N B E Wl rows bs bv br s v r w) (k : Nat) (x : Value) {bs' bv' br' : Value} (hc : (#[.string nm, bs, bv, br] : Array Value).setIfInBounds k x = #[.string nm, bs', bv', br']) : TnL nm w0 N B E Wl rows bs' bv' br' s v r (w.setCell ⟨B, k, none⟩ x) := by
  have hg := grown_set w B k x
  have hk : ∀ b, b ≠ B → (w.setCell ⟨B, k, none⟩ x).heap[b]? = w.heap[b]? := fun b hb => heap_set_other w B k x hb
  refine ⟨h.nz, h.below.grown hg h.le (fun k hk => by cases hk; exact h.hB), h.hB, by rw [heap_set_same h.bx, hc], own_same h.so fun g hg' => hk g (h.ds g hg').2.2, own_same h.ro fun g hg' => hk g (h.dr g hg').2, h.nst.kept hg.size (fun g hg' => hk g (h.dv g hg')) (fun b _ hok => hk b hok.2.1), h.ds, h.dr, h.dv⟩
/-- The table as it lies, in any world that keeps its blocks. -/
theorem TnL.table (h : TnL nm w0 N B E Wl rows s v r s v r w) : ∃ p', w.heap[B]? = some (.cells (tbA ⟨nm, E, rows, Wl⟩ p') 26 (0, 0)) ∧ ∀ w', w.heap.size ≤ w'.heap.size → (∀ g, N ≤ g → g < w.heap.size → w'.heap[g]? = w.heap[g]?) → TbIn w' ⟨nm, E, rows, Wl⟩ p' := by
  have hs := h.so
  have hr := h.ro
  have hn := h.nst
  have hbx := h.bx
  obtain ⟨ea, ec, rfl, en, el, _⟩ := own_cel h.so
  obtain ⟨wa, wc, rfl, wn, wl, _⟩ := own_cel h.ro
  rcases h.nst.own.lies with ⟨rfl, h0⟩ | ⟨g, c, rfl, hl, _, hat⟩
  · subst h0
    refine ⟨⟨ea, ec, none, 0, wa, wc⟩, hbx, fun w' hsz hk => ⟨?_, Or.inl rfl, ?_, en, fun _ => rfl, wn, el, Nat.le_refl 0, wl⟩⟩
    · exact own_cel_at (own_same hs fun g hg => hk g (own_lt hs hg).1 (own_lt hs hg).2)
    · exact own_cel_at (own_same hr fun g hg => hk g (own_lt hr hg).1 (own_lt hr hg).2)
  · refine ⟨⟨ea, ec, some ⟨g, 0, none⟩, c, wa, wc⟩, hbx, fun w' hsz hk => ⟨?_, Or.inr ⟨g, 0, rfl, ?_⟩, ?_, en, fun h => (by cases h), wn, el, hl, wl⟩⟩
    · exact own_cel_at (own_same hs fun g hg => hk g (own_lt hs hg).1 (own_lt hs hg).2)
    · exact nest_row_at (hn.kept hsz (fun g hg => hk g (nest_lt hn hg).1 (nest_lt hn hg).2) (fun b hb hok => hk b hok.1 hb)).own
    · exact own_cel_at (own_same hr fun g hg => hk g (own_lt hr hg).1 (own_lt hr hg).2)
end
/-- At the beginning. -/
theorem TnL.start (nm : ByteArray) (w : World) : TnL nm w w.heap.size w.heap.size [] [] [] (.slice none 0 0) (.slice none 0 0) (.slice none 0 0) (.slice none 0 0) (.slice none 0 0) (.slice none 0 0) (w.alloc (.cells #[.string nm, .slice none 0 0, .slice none 0 0, .slice none 0 0] 26)) :=
  ⟨Nat.le_refl _, below1 _ _, Nat.le_refl _, box_new _ _ _, ⟨rfl, Or.inl ⟨rfl, rfl⟩⟩, ⟨rfl, Or.inl ⟨rfl, rfl⟩⟩, NestQ.nil _ _ _ _ _, (fun g h => by cases h), (fun g h => by cases h), (fun g h => by cases h)⟩
theorem wpAnyG_two {P : Program} {md : Region.Mode} {ops : Array Oper} {Q : Exit → Act → World → Prop} {A C : World → Prop} {k : Nat} {fuel : Nat} {listed : Array Bool} {a : Act} {w : World} (i j : Nat) {oi oj : Oper} (hr : Region.ready md ops listed = [i, j]) (hi : ops[i]? = some oi) (hj : ops[j]? = some oj)
    (h1 : ∀ K' : Act → World → Prop, Hid (∀ a w, ((A w ∧ ((listed.setIfInBounds i true).getD k true = false → C w)) ∧ wpAnyG P md ops Q A C k fuel (listed.setIfInBounds i true) a w) → K' a w) → wpList P ops (then1 K' Q) [oi] a w)
    (h2 : ∀ K' : Act → World → Prop, Hid (∀ a w, ((A w ∧ ((listed.setIfInBounds j true).getD k true = false → C w)) ∧ wpAnyG P md ops Q A C k fuel (listed.setIfInBounds j true) a w) → K' a w) → wpList P ops (then1 K' Q) [oj] a w) : wpAnyG P md ops Q A C k (fuel + 1) listed a w :=
  ⟨(fun h0 => by rw [hr] at h0; cases h0), fun m hm => by
    rw [hr] at hm
    simp only [List.mem_cons, List.not_mem_nil, or_false] at hm
    rcases hm with rfl | rfl
    · exact wpOp_walk hi h1
    · exact wpOp_walk hj h2⟩
end Go.Proofs.Ytnhnjfoboepffaa
