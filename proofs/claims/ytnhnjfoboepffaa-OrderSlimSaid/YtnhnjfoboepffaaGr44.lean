/- Texts of one's own, joined: OrdDi. -/
import Derived.Test.YtnhnjfoboepffaaGr20
import Derived.Test.YtnhnjfoboepffaaGr36
import Derived.Test.YtnhnjfoboepffaaGr43
import Derived.Test.YtnhnjfoboepffaaGr14
import Derived.Test.YtnhnjfoboepffaaGr1
namespace Go.Proofs.Ytnhnjfoboepffaa
open Go.RowKit

/-- How far the first statement of slim has come. -/
structure SlI (t : M.Tb) (w0 : World) (N : Nat) (b6 b10 b11 b12 b13 : Bool) (x12 x16 x17 x3 : Value) (B : Nat) (w : World) : Prop where
  fl : (b10 = true → b6 = true) ∧ (b11 = true → b10 = true) ∧ (b13 = true → b11 = true ∧ b12 = true)
  nz : N ≤ w0.heap.size
  below : Below N w0 w
  s : b6 = true → w.ownsRow N 9 1 x12 t.elems.length (t.elems.map .string)
  r : b10 = true → w.ownsRow N 4 1 x16 t.wrong.length (t.wrong.map .bool)
  k : b11 = true → x17 = .agg #[.string t.name, x12, .slice none 0 0, x16]
  bx : b12 = true → x3 = .pointer (some ⟨B, 0, none⟩) ∧ N ≤ B ∧ w.heap[B]? = some (.cells (if b13 then #[.string t.name, x12, .slice none 0 0, x16] else tb0) 26 (0, 0))
  d2 : b6 = true → b12 = true → x12.ownBlock ≠ some B
  d3 : b10 = true → b12 = true → x16.ownBlock ≠ some B
section
variable {t : M.Tb} {w0 : World} {N : Nat} {b6 b10 b11 b12 b13 : Bool} {x12 x16 x17 x3 : Value} {B : Nat} {w : World}
theorem SlI.le (h : SlI t w0 N b6 b10 b11 b12 b13 x12 x16 x17 x3 B w) : N ≤ w.heap.size := Nat.le_trans h.nz h.below.size
theorem SlI.f10 (h : SlI t w0 N false b10 b11 b12 b13 x12 x16 x17 x3 B w) : b10 = false ∧ b11 = false ∧ b13 = false := by
  have h1 : b10 = false := by cases q : b10; rfl; exact absurd (h.fl.1 q) (by simp)
  have h2 : b11 = false := by cases q : b11; rfl; exact absurd (h.fl.2.1 q) (by simp [h1])
  have h3 : b13 = false := by cases q : b13; rfl; exact absurd (h.fl.2.2 q).1 (by simp [h2])
  exact ⟨h1, h2, h3⟩
theorem SlI.f11 (h : SlI t w0 N b6 false b11 b12 b13 x12 x16 x17 x3 B w) : b11 = false ∧ b13 = false := by
  have h2 : b11 = false := by cases q : b11; rfl; exact absurd (h.fl.2.1 q) (by simp)
  have h3 : b13 = false := by cases q : b13; rfl; exact absurd (h.fl.2.2 q).1 (by simp [h2])
  exact ⟨h2, h3⟩
theorem SlI.f13 (h : SlI t w0 N b6 b10 b11 false b13 x12 x16 x17 x3 B w) : b13 = false := by
  cases q : b13; rfl; exact absurd (h.fl.2.2 q).2 (by simp)
theorem SlI.step6 (h : SlI t w0 N false b10 b11 b12 b13 x12 x16 x17 x3 B w) {v : Value} {w' : World} (hv : w'.ownsRow w.heap.size 9 1 v t.elems.length (t.elems.map .string)) (hB : Below w.heap.size w w') : SlI t w0 N true b10 b11 b12 b13 v x16 x17 x3 B w' := by
  obtain ⟨rfl, rfl, rfl⟩ := h.f10
  refine ⟨by simp, h.nz, h.below.trans (hB.mono h.le), fun _ => own_base hv h.le, by simp, by simp, fun q => ?_, fun _ q e => ?_, by simp⟩
  · obtain ⟨e, h1, h2⟩ := h.bx q
    exact ⟨e, h1, by rw [hB.block B (heap_lt h2)]; exact h2⟩
  · obtain ⟨_, _, h2⟩ := h.bx q
    have := (own_lt hv e).1
    have := heap_lt h2
    omega
theorem SlI.step10 (h : SlI t w0 N true false b11 b12 b13 x12 x16 x17 x3 B w) {v : Value} {w' : World} (hv : w'.ownsRow w.heap.size 4 1 v t.wrong.length (t.wrong.map .bool)) (hB : Below w.heap.size w w') : SlI t w0 N true true b11 b12 b13 x12 v x17 x3 B w' := by
  obtain ⟨rfl, rfl⟩ := h.f11
  refine ⟨by simp, h.nz, h.below.trans (hB.mono h.le), fun _ => own_below (h.s rfl) hB, fun _ => own_base hv h.le, by simp, fun q => ?_, h.d2, fun _ q e => ?_⟩
  · obtain ⟨e, h1, h2⟩ := h.bx q
    exact ⟨e, h1, by rw [hB.block B (heap_lt h2)]; exact h2⟩
  · obtain ⟨_, _, h2⟩ := h.bx q
    have := (own_lt hv e).1
    have := heap_lt h2
    omega
theorem SlI.step11 (h : SlI t w0 N true true false b12 b13 x12 x16 x17 x3 B w) : SlI t w0 N true true true b12 b13 x12 x16 (.agg #[.string t.name, x12, .slice none 0 0, x16]) x3 B w := by
  have h3 : b13 = false := by cases q : b13; rfl; exact absurd (h.fl.2.2 q).1 (by simp)
  subst h3
  exact ⟨by simp, h.nz, h.below, h.s, h.r, fun _ => rfl, h.bx, h.d2, h.d3⟩
theorem SlI.step12 (h : SlI t w0 N b6 b10 b11 false b13 x12 x16 x17 x3 B w) : SlI t w0 N b6 b10 b11 true b13 x12 x16 x17 (.pointer (some ⟨w.heap.size, 0, none⟩)) w.heap.size (w.alloc (.cells tb0 26)) := by
  have h3 := h.f13
  subst h3
  have hB := below1 w (.cells tb0 26)
  exact ⟨⟨h.fl.1, h.fl.2.1, by simp⟩, h.nz, h.below.trans (hB.mono h.le), fun q => own_below (h.s q) hB, fun q => own_below (h.r q) hB, h.k, fun _ => ⟨rfl, h.le, box_new w tb0 26⟩, fun q _ e => by have := (own_lt (h.s q) e).2; omega, fun q _ e => by have := (own_lt (h.r q) e).2; omega⟩
theorem SlI.step13 (h : SlI t w0 N true true true true false x12 x16 x17 x3 B w) {w' : World} (k1 : w'.heap[B]? = some (.cells #[.string t.name, x12, .slice none 0 0, x16] 26 (0, 0))) (k2 : w.grownBy w' (some B)) : SlI t w0 N true true true true true x12 x16 x17 x3 B w' := by
  obtain ⟨e, h1, h2⟩ := h.bx rfl
  have hk : ∀ k, k < w.heap.size → some k ≠ some B → w'.heap[k]? = w.heap[k]? := k2.block
  exact ⟨by simp, h.nz, h.below.grown k2 h.le (fun k hk => by cases hk; exact h1), fun _ => own_same (h.s rfl) fun g hg => hk g (own_lt (h.s rfl) hg).2 (fun e => h.d2 rfl rfl (by rw [hg, e])), fun _ => own_same (h.r rfl) fun g hg => hk g (own_lt (h.r rfl) hg).2 (fun e => h.d3 rfl rfl (by rw [hg, e])), h.k, fun _ => ⟨e, h1, k1⟩, h.d2, h.d3⟩
theorem SlI.done (h : SlI t w0 N true true true true true x12 x16 x17 x3 B w) (above : List (List Int)) : CpL { t with above := above } w0 N x12 x16 B [] (.slice none 0 0) (.slice none 0 0) w := by
  obtain ⟨_, h1, h2⟩ := h.bx rfl
  exact ⟨h.nz, h.below, h.s rfl, h.r rfl, h1, h2, h.d2 rfl rfl, h.d3 rfl rfl, NestQ.nil _ _ _ _ _, fun g hg => by cases hg⟩
end

theorem belowD1 {N : Nat} {w0 w : World} (h : Below N w0 w) (o : Obj) (hN : N ≤ w0.heap.size := by first | exact Nat.le_refl _ | simp) : Below N w0 (w.alloc o) := h.trans ((below1 w o).mono (Nat.le_trans hN h.size))
/-- How far the last statement of a round of slim has come. -/
structure SlJ (t : M.Tb) (w0 : World) (N : Nat) (s r : Value) (B : Nat) (rows : List (List Int)) (vb : Value) (l : List Int) (z y : Int) (wr : World) (b1 b5 b6 b7 b8 b9 b11 : Bool) (x31 x35 x36 x37 x38 x39 : Value) (W : World) : Prop where
  fl : (b6 = true → b5 = true) ∧ (b7 = true → b6 = true) ∧ (b8 = true → b7 = true) ∧ (b9 = true → b8 = true ∧ b1 = true) ∧ (b11 = true → b9 = true)
  at_ : CpL t w0 N s r B rows vb vb wr
  bel : b9 = false → Below wr.heap.size wr W
  k1 : b1 = true → x31 = vb
  k5 : b5 = true → x35 = .int .u16 z
  k6 : b6 = true → x36 = .int .u16 y
  k7 : b7 = true → b8 = false → ∃ ra rc, x37 = .slice ra l.length rc ∧ (ra = none → rc = 0) ∧ l.length ≤ rc ∧ (l = [] ∨ ∃ b off, ra = some ⟨b, off, none⟩ ∧ wr.heap.size ≤ b ∧ CelAt (Value.int .i64) W b off l)
  k8 : b8 = true → b9 = false → ∃ g ra rc, x38 = .slice (some ⟨g, 0, none⟩) 1 1 ∧ W.cell? ⟨g, 0, none⟩ = some (.slice ra l.length rc) ∧ (ra = none → rc = 0) ∧ l.length ≤ rc ∧ (l = [] ∨ ∃ b off, ra = some ⟨b, off, none⟩ ∧ wr.heap.size ≤ b ∧ CelAt (Value.int .i64) W b off l)
  k9 : b9 = true → b11 = false → CpL t w0 N s r B (rows ++ [l]) vb x39 W
  k11 : b11 = true → CpL t w0 N s r B (rows ++ [l]) x39 x39 W
section
variable {t : M.Tb} {w0 : World} {N : Nat} {s r : Value} {B : Nat} {rows : List (List Int)} {vb : Value} {l : List Int} {z y : Int} {wr : World} {b1 b5 b6 b7 b8 b9 b11 : Bool} {x31 x35 x36 x37 x38 x39 : Value} {W : World}
theorem SlJ.below (h : SlJ t w0 N s r B rows vb l z y wr b1 b5 b6 b7 b8 b9 b11 x31 x35 x36 x37 x38 x39 W) : Below N w0 W := by
  cases hb : b9 with
  | false => exact (h.at_.new (h.bel hb)).below
  | true =>
    cases hc : b11 with
    | false => exact (h.k9 hb hc).below
    | true => exact (h.k11 hc).below
theorem SlJ.start (h : CpL t w0 N s r B rows vb vb wr) : SlJ t w0 N s r B rows vb l z y wr false false false false false false false x31 x35 x36 x37 x38 x39 wr :=
  ⟨⟨by simp, by simp, by simp, by simp, by simp⟩, h, fun _ => Below.refl _ _, by simp, by simp, by simp, by simp, by simp, by simp, by simp⟩
theorem SlJ.n9 (h : SlJ t w0 N s r B rows vb l z y wr b1 b5 b6 b7 b8 b9 b11 x31 x35 x36 x37 x38 x39 W) (h1 : b1 = false ∨ b8 = false) : b9 = false ∧ b11 = false := by
  have q : b9 = false := by
    cases hb : b9 with
    | false => rfl
    | true =>
      obtain ⟨q1, q2⟩ := h.fl.2.2.2.1 hb
      rcases h1 with e | e
      · rw [e] at q2; cases q2
      · rw [e] at q1; cases q1
  refine ⟨q, ?_⟩
  cases hb : b11 with
  | false => rfl
  | true => have := h.fl.2.2.2.2 hb; rw [q] at this; cases this
theorem SlJ.cell (h : SlJ t w0 N s r B rows vb l z y wr false b5 b6 b7 b8 b9 b11 x31 x35 x36 x37 x38 x39 W) : W.cell? ⟨B, 2, none⟩ = some vb := by
  rw [Lib.cell_of_heap (h.at_.new (h.bel (h.n9 (Or.inl rfl)).1)).bx]; rfl
theorem SlJ.step1 (h : SlJ t w0 N s r B rows vb l z y wr false b5 b6 b7 b8 b9 b11 x31 x35 x36 x37 x38 x39 W) : SlJ t w0 N s r B rows vb l z y wr true b5 b6 b7 b8 b9 b11 vb x35 x36 x37 x38 x39 W :=
  ⟨⟨h.fl.1, h.fl.2.1, h.fl.2.2.1, fun q => ⟨(h.fl.2.2.2.1 q).1, rfl⟩, h.fl.2.2.2.2⟩, h.at_, h.bel, fun _ => rfl, h.k5, h.k6, h.k7, h.k8, h.k9, h.k11⟩
theorem SlJ.n8 (h : SlJ t w0 N s r B rows vb l z y wr b1 b5 b6 false b8 b9 b11 x31 x35 x36 x37 x38 x39 W) : b8 = false ∧ b9 = false ∧ b11 = false := by
  have q : b8 = false := by cases hb : b8; rfl; exact absurd (h.fl.2.2.1 hb) (by simp)
  exact ⟨q, h.n9 (Or.inr q)⟩
theorem SlJ.n7 (h : SlJ t w0 N s r B rows vb l z y wr b1 b5 false b7 b8 b9 b11 x31 x35 x36 x37 x38 x39 W) : b7 = false := by
  cases hb : b7; rfl; exact absurd (h.fl.2.1 hb) (by simp)
theorem SlJ.n6 (h : SlJ t w0 N s r B rows vb l z y wr b1 false b6 b7 b8 b9 b11 x31 x35 x36 x37 x38 x39 W) : b6 = false := by
  cases hb : b6; rfl; exact absurd (h.fl.1 hb) (by simp)
theorem SlJ.step5 (h : SlJ t w0 N s r B rows vb l z y wr b1 false b6 b7 b8 b9 b11 x31 x35 x36 x37 x38 x39 W) {W' : World} (hB : Below W.heap.size W W') : SlJ t w0 N s r B rows vb l z y wr b1 true b6 b7 b8 b9 b11 x31 (.int .u16 z) x36 x37 x38 x39 W' := by
  obtain rfl := h.n6
  obtain rfl := h.n7
  obtain ⟨rfl, rfl, rfl⟩ := h.n8
  exact ⟨⟨by simp, by simp, by simp, by simp, by simp⟩, h.at_, fun _ => below2 (h.bel rfl) hB, h.k1, fun _ => rfl, by simp, by simp, by simp, by simp, by simp⟩
theorem SlJ.step6 (h : SlJ t w0 N s r B rows vb l z y wr b1 true false b7 b8 b9 b11 x31 x35 x36 x37 x38 x39 W) : SlJ t w0 N s r B rows vb l z y wr b1 true true b7 b8 b9 b11 x31 x35 (.int .u16 y) x37 x38 x39 W := by
  obtain rfl := h.n7
  obtain ⟨rfl, rfl, rfl⟩ := h.n8
  exact ⟨⟨by simp, by simp, by simp, by simp, by simp⟩, h.at_, h.bel, h.k1, h.k5, fun _ => rfl, by simp, by simp, by simp, by simp⟩
theorem SlJ.step7 (h : SlJ t w0 N s r B rows vb l z y wr b1 b5 true false b8 b9 b11 x31 x35 x36 x37 x38 x39 W) {W' : World} {ra : Option Addr} {rc : Nat} (hB : Below W.heap.size W W') (h1 : ra = none → rc = 0) (h2 : l.length ≤ rc) (h3 : IntSl W' ra l) (h4 : ∀ b off, ra = some ⟨b, off, none⟩ → W.heap.size ≤ b) :
    SlJ t w0 N s r B rows vb l z y wr b1 b5 true true b8 b9 b11 x31 x35 x36 (.slice ra l.length rc) x38 x39 W' := by
  obtain ⟨rfl, rfl, rfl⟩ := h.n8
  have hb := h.bel rfl
  refine ⟨⟨h.fl.1, by simp, by simp, by simp, by simp⟩, h.at_, fun _ => below2 hb hB, h.k1, h.k5, h.k6, fun _ _ => ⟨ra, rc, rfl, h1, h2, ?_⟩, by simp, by simp, by simp⟩
  rcases h3 with q | ⟨b, off, e, hc⟩
  · exact Or.inl q
  · exact Or.inr ⟨b, off, e, Nat.le_trans hb.size (h4 b off e), hc⟩
theorem SlJ.step8 (h : SlJ t w0 N s r B rows vb l z y wr b1 b5 b6 true false b9 b11 x31 x35 x36 x37 x38 x39 W) : SlJ t w0 N s r B rows vb l z y wr b1 b5 b6 true true b9 b11 x31 x35 x36 x37 (.slice (some ⟨W.heap.size, 0, none⟩) 1 1) x39 (W.alloc (.cells #[x37] 37)) := by
  obtain ⟨rfl, rfl⟩ := h.n9 (Or.inr rfl)
  have hb := h.bel rfl
  obtain ⟨ra, rc, rfl, q1, q2, q3⟩ := h.k7 rfl rfl
  refine ⟨⟨h.fl.1, h.fl.2.1, by simp, by simp, by simp⟩, h.at_, fun _ => belowA hb _, h.k1, h.k5, h.k6, by simp, fun _ _ => ⟨W.heap.size, ra, rc, rfl, World.cell?_alloc_at _ _ _ _ rfl, q1, q2, ?_⟩, by simp, by simp⟩
  rcases q3 with q | ⟨b, off, e, hlo, hc⟩
  · exact Or.inl q
  · exact Or.inr ⟨b, off, e, hlo, hc.below (below1 _ _)⟩
theorem SlJ.for9 (h : SlJ t w0 N s r B rows vb l z y wr true b5 b6 b7 true false b11 x31 x35 x36 x37 x38 x39 W) :
    x31 = vb ∧ NestQ (fun b => b ≠ B ∧ N ≤ b) (Value.int .i64) W N 37 vb rows ∧ N ≤ W.heap.size ∧ ∃ g ra rc, x38 = .slice (some ⟨g, 0, none⟩) 1 1 ∧ W.cell? ⟨g, 0, none⟩ = some (.slice ra l.length rc) ∧ (ra = none → rc = 0) ∧ l.length ≤ rc ∧ (l = [] ∨ ∃ b off, ra = some ⟨b, off, none⟩ ∧ some b ≠ vb.ownBlock ∧ (b ≠ B ∧ N ≤ b) ∧ CelAt (Value.int .i64) W b off l) := by
  have hb := h.bel rfl
  have hL := h.at_.new hb
  obtain ⟨g, ra, rc, e, q1, q2, q3, q4⟩ := h.k8 rfl rfl
  refine ⟨h.k1 rfl, hL.nst, hL.le, g, ra, rc, e, q1, q2, q3, ?_⟩
  rcases q4 with q | ⟨b, off, e, hlo, hc⟩
  · exact Or.inl q
  · refine Or.inr ⟨b, off, e, fun e' => ?_, ⟨fun e' => ?_, Nat.le_trans h.at_.le hlo⟩, hc⟩
    · have := (nest_lt h.at_.nst e'.symm).2; omega
    · have := heap_lt h.at_.bx; omega
theorem SlJ.step9 (h : SlJ t w0 N s r B rows vb l z y wr true b5 b6 b7 true false b11 x31 x35 x36 x37 x38 x39 W) {g n c : Nat} {w' : World} (hn : NestQ (fun b => b ≠ B ∧ N ≤ b) (Value.int .i64) w' N 37 (.slice (some ⟨g, 0, none⟩) n c) (rows ++ [l])) (hg : W.grownBy w' vb.ownBlock) (hb : some g = vb.ownBlock ∨ g = W.heap.size) :
    SlJ t w0 N s r B rows vb l z y wr true b5 b6 b7 true true b11 x31 x35 x36 x37 x38 (.slice (some ⟨g, 0, none⟩) n c) w' := by
  have h11 : b11 = false := by cases hb : b11; rfl; exact absurd (h.fl.2.2.2.2 hb) (by simp)
  subst h11
  exact ⟨⟨h.fl.1, h.fl.2.1, h.fl.2.2.1, by simp, by simp⟩, h.at_, by simp, h.k1, h.k5, h.k6, (fun _ q => by cases q), by simp, fun _ _ => (h.at_.new (h.bel rfl)).push hn hg hb, by simp⟩
theorem SlJ.for11 (h : SlJ t w0 N s r B rows vb l z y wr b1 b5 b6 b7 b8 true false x31 x35 x36 x37 x38 x39 W) : W.cell? ⟨B, 2, none⟩ = some vb ∧ W.frozen? ⟨B, 2, none⟩ = false ∧ ∃ a n c, x39 = .slice a n c := by
  have hL := h.k9 rfl rfl
  obtain ⟨a, c, e⟩ := hL.nst.slice
  exact ⟨by rw [Lib.cell_of_heap hL.bx]; rfl, by simp [World.frozen?, hL.bx], a, _, c, e⟩
theorem SlJ.step11 (h : SlJ t w0 N s r B rows vb l z y wr b1 b5 b6 b7 b8 true false x31 x35 x36 x37 x38 x39 W) : SlJ t w0 N s r B rows vb l z y wr b1 b5 b6 b7 b8 true true x31 x35 x36 x37 x38 x39 (W.setCell ⟨B, 2, none⟩ x39) :=
  ⟨⟨h.fl.1, h.fl.2.1, h.fl.2.2.1, h.fl.2.2.2.1, by simp⟩, h.at_, by simp, h.k1, h.k5, h.k6, (fun _ q => by have := (h.fl.2.2.2.1 rfl).1; rw [q] at this; cases this), by simp, by simp, fun _ => (h.k9 rfl rfl).set⟩
end

set_option maxHeartbeats 16000000 in
set_option maxRecDepth 100000 in
theorem slim_any (t : M.Tb) (p : Tp) (w : World) (hg : M.good t) (hw : t.wrong.length ≤ 1000000) (ht : TbIn w t p) :
    Calls Try.prog 29 #[knV t p (M.know t)] w fun e w' => ∃ p', e = .returned (tbV (M.slm t) p') ∧ (∀ W : World, w'.heap.size ≤ W.heap.size → (∀ g, w.heap.size ≤ g → g < w'.heap.size → W.heap[g]? = w'.heap[g]?) → TbIn W (M.slm t) p') ∧ Below w.heap.size w w' := by
  have hmx : Try.prog.follows .mixedOrders = true := by kernel_rfl
  obtain ⟨ik, hik, hks⟩ := Option.map_eq_some_iff.1 knInfo
  obtain ⟨t0, hti, htz, hts, _⟩ := info_parts tabInfo
  obtain ⟨r0, hrr, hr0, hr1, hr2⟩ := info_parts intsInfo
  have HN1 := Lib.hid (And.intro hrr (And.intro hr0 (And.intro hr1 hr2)))
  have HTI := Lib.hid (And.intro hti (And.intro htz hts))
  have HIK := Lib.hid hik
  have HKS := Lib.hid hks
  clear hrr hr0 hr1 hr2 hti htz hts hik hks
  have hBB : Below w.heap.size w ((w.alloc (.cells (knA t p (M.know t)) 62)).alloc (.cells tb0 26)) := belowA (below1 _ _) _
  have HY := Lib.hid (box_last w (.cells (knA t p (M.know t)) 62) tb0 26)
  have HKN := Lib.hid (show ((w.alloc (.cells (knA t p (M.know t)) 62)).alloc (.cells tb0 26)).heap[w.heap.size]? = some (.cells (knA t p (M.know t)) 62 (0, 0)) by
    rw [Below.heap_alloc _ _ _ (by simp)]; exact box_new _ _ _)
  have HT := Lib.hid (ht.below hBB)
  have HBB := Lib.hid hBB
  have HG := Lib.hid hg
  have h12 := hg.form.twelve
  have HW := Lib.hid hw
  have HKL := Lib.hid (M.know_lt hg.form)
  have HGB := Lib.hid (show ∀ a j, a < t.elems.length → (M.bey (M.know t) (2 ^ a)).testBit j = M.stB t a j from fun a j ha => M.bey_one hg ha)
  have HSM := Lib.hid (show ∀ a, M.slmR t a = M.cut (M.bey (M.know t) (2 ^ a)) (M.bey (M.know t) (M.bey (M.know t) (2 ^ a))) from fun a => rfl)
  clear ht hBB hg hw
  generalize M.know t = r at *
  go_enter Try.func29, Try.ntmps29
  go_wp2_with fail
  have HSZ := Lib.hid (show ((w.alloc (.cells (knA t p r) 62)).alloc (.cells tb0 26)).heap.size = w.heap.size + 1 + 1 from by rw [World.size_alloc, World.size_alloc])
  generalize hW0 : (w.alloc (.cells (knA t p r) 62)).alloc (.cells tb0 26) = W0 at *
  clear hW0
  have hS : ∀ W : World, Below W0.heap.size W0.drew W → W.cell? ⟨w.heap.size, 0, none⟩ = some (.string t.name) ∧ W.cell? ⟨w.heap.size, 1, none⟩ = some (.slice p.ea t.elems.length p.ec) ∧ W.cell? ⟨w.heap.size, 3, none⟩ = some (.slice p.wa t.wrong.length p.wc) := fun W hW => by
    have hb : W.heap[w.heap.size]? = some (.cells (knA t p r) 62 (0, 0)) := by
      rw [hW.block _ (heap_lt HKN.out)]; exact HKN.out
    refine ⟨?_, ?_, ?_⟩ <;> (rw [Lib.cell_of_heap hb]; rfl)
  have HS := Lib.hid hS
  have hS0 := hS _ (Below.refl _ _)
  clear hS
  refine wp_region_held (S := fun W => W.cell? ⟨w.heap.size, 0, none⟩ = some (.string t.name) ∧ W.cell? ⟨w.heap.size, 1, none⟩ = some (.slice p.ea t.elems.length p.ec) ∧ W.cell? ⟨w.heap.size, 3, none⟩ = some (.slice p.wa t.wrong.length p.wc)) hmx ?_
  change wpAnyH _ _ _ _ _ _ _ _ W0.drew
  refine wpAnyH_take (i := 0) (v := .pointer (some ⟨w.heap.size, 0, none⟩)) rfl (by kernel_rfl) (by kernel_rfl) (by kernel_rfl) (fun _ _ _ h => h) (Or.inl ⟨by kernel_rfl, ?_⟩) hS0 ?_
  · intro W' hSw
    obtain ⟨s0, s1, s3⟩ := hSw
    go_simp
  dsimp only [List.getElem_toArray, List.getElem_cons_zero, List.getElem_cons_succ, Act.put, List.setIfInBounds_toArray, List.set_cons_zero, List.set_cons_succ]
  refine wpAnyH_take (i := 1) (v := .pointer (some ⟨w.heap.size, 0, none⟩)) rfl (by kernel_rfl) (by kernel_rfl) (by kernel_rfl) (fun _ _ _ h => h) (Or.inl ⟨by kernel_rfl, ?_⟩) hS0 ?_
  · intro W' hSw
    obtain ⟨s0, s1, s3⟩ := hSw
    go_simp
  dsimp only [List.getElem_toArray, List.getElem_cons_zero, List.getElem_cons_succ, Act.put, List.setIfInBounds_toArray, List.set_cons_zero, List.set_cons_succ]
  refine wpAnyH_take (i := 2) (v := .string t.name) rfl (by kernel_rfl) (by kernel_rfl) (by kernel_rfl) (fun _ _ _ h => h) (Or.inl ⟨by kernel_rfl, ?_⟩) hS0 ?_
  · intro W' hSw
    obtain ⟨s0, s1, s3⟩ := hSw
    go_simp
  dsimp only [List.getElem_toArray, List.getElem_cons_zero, List.getElem_cons_succ, Act.put, List.setIfInBounds_toArray, List.set_cons_zero, List.set_cons_succ]
  refine wpAnyH_take (i := 3) (v := .pointer (some ⟨w.heap.size, 0, none⟩)) rfl (by kernel_rfl) (by kernel_rfl) (by kernel_rfl) (fun _ _ _ h => h) (Or.inl ⟨by kernel_rfl, ?_⟩) hS0 ?_
  · intro W' hSw
    obtain ⟨s0, s1, s3⟩ := hSw
    go_simp
  dsimp only [List.getElem_toArray, List.getElem_cons_zero, List.getElem_cons_succ, Act.put, List.setIfInBounds_toArray, List.set_cons_zero, List.set_cons_succ]
  refine wpAnyH_take (i := 4) (v := .pointer (some ⟨w.heap.size, 1, none⟩)) rfl (by kernel_rfl) (by kernel_rfl) (by kernel_rfl) (fun _ _ _ h => h) (Or.inl ⟨by kernel_rfl, ?_⟩) hS0 ?_
  · intro W' hSw
    obtain ⟨s0, s1, s3⟩ := hSw
    go_simp
  dsimp only [List.getElem_toArray, List.getElem_cons_zero, List.getElem_cons_succ, Act.put, List.setIfInBounds_toArray, List.set_cons_zero, List.set_cons_succ]
  refine wpAnyH_take (i := 5) (v := .slice p.ea t.elems.length p.ec) rfl (by kernel_rfl) (by kernel_rfl) (by kernel_rfl) (fun _ _ _ h => h) (Or.inl ⟨by kernel_rfl, ?_⟩) hS0 ?_
  · intro W' hSw
    obtain ⟨s0, s1, s3⟩ := hSw
    go_simp
  dsimp only [List.getElem_toArray, List.getElem_cons_zero, List.getElem_cons_succ, Act.put, List.setIfInBounds_toArray, List.set_cons_zero, List.set_cons_succ]
  refine wpAnyH_take (i := 7) (v := .pointer (some ⟨w.heap.size, 0, none⟩)) rfl (by kernel_rfl) (by kernel_rfl) (by kernel_rfl) (fun _ _ _ h => h) (Or.inl ⟨by kernel_rfl, ?_⟩) hS0 ?_
  · intro W' hSw
    obtain ⟨s0, s1, s3⟩ := hSw
    go_simp
  dsimp only [List.getElem_toArray, List.getElem_cons_zero, List.getElem_cons_succ, Act.put, List.setIfInBounds_toArray, List.set_cons_zero, List.set_cons_succ]
  refine wpAnyH_take (i := 8) (v := .pointer (some ⟨w.heap.size, 3, none⟩)) rfl (by kernel_rfl) (by kernel_rfl) (by kernel_rfl) (fun _ _ _ h => h) (Or.inl ⟨by kernel_rfl, ?_⟩) hS0 ?_
  · intro W' hSw
    obtain ⟨s0, s1, s3⟩ := hSw
    go_simp
  dsimp only [List.getElem_toArray, List.getElem_cons_zero, List.getElem_cons_succ, Act.put, List.setIfInBounds_toArray, List.set_cons_zero, List.set_cons_succ]
  refine wpAnyH_take (i := 9) (v := .slice p.wa t.wrong.length p.wc) rfl (by kernel_rfl) (by kernel_rfl) (by kernel_rfl) (fun _ _ _ h => h) (Or.inl ⟨by kernel_rfl, ?_⟩) hS0 ?_
  · intro W' hSw
    obtain ⟨s0, s1, s3⟩ := hSw
    go_simp
  dsimp only [List.getElem_toArray, List.getElem_cons_zero, List.getElem_cons_succ, Act.put, List.setIfInBounds_toArray, List.set_cons_zero, List.set_cons_succ]
  simp only [List.setIfInBounds_toArray, List.set_cons_succ, List.set_cons_zero]
  refine wpAnyH_inv (fun L a W => ∃ b6 b10 b11 b12 b13 x12 x16 x17 x3 B, L = #[true, true, true, true, true, true, b6, true, true, true, b10, b11, b12, b13] ∧ a = ⟨#[knV t p r, .pointer (some ⟨w.heap.size, 0, none⟩), .pointer (some ⟨w.heap.size + 1, 0, none⟩), x3, undef, undef, .pointer (some ⟨w.heap.size, 0, none⟩), .pointer (some ⟨w.heap.size, 0, none⟩), .string t.name, .pointer (some ⟨w.heap.size, 0, none⟩), .pointer (some ⟨w.heap.size, 1, none⟩), .slice p.ea t.elems.length p.ec, x12, .pointer (some ⟨w.heap.size, 0, none⟩), .pointer (some ⟨w.heap.size, 3, none⟩), .slice p.wa t.wrong.length p.wc, x16, x17, undef, undef, undef, undef, undef, undef, undef, undef, undef, undef, undef, undef, undef, undef, undef, undef, undef, undef, undef, undef, undef, undef, undef, undef, undef], []⟩ ∧ SlI t W0.drew W0.heap.size b6 b10 b11 b12 b13 x12 x16 x17 x3 B W) ?step ?stop _ _ _ _ (by decide) ?start
  case start =>
    refine ⟨false, false, false, false, false, undef, undef, undef, undef, 0, by kernel_rfl, by rfl, ?_⟩
    refine ⟨⟨by simp, by simp, by simp⟩, Nat.le_refl _, Below.refl _ _, by simp, by simp, by simp, by simp, by simp, by simp⟩
  case step =>
    rintro L a W ⟨b6, b10, b11, b12, b13, x12, x16, x17, x3, B, rfl, rfl, hI⟩ i hi
    have hr : (i = 6 ∧ b6 = false) ∨ (i = 10 ∧ b10 = false ∧ b6 = true) ∨ (i = 11 ∧ b11 = false ∧ b10 = true ∧ b6 = true) ∨ (i = 12 ∧ b12 = false) ∨ (i = 13 ∧ b13 = false ∧ b11 = true ∧ b12 = true) := by
      clear hI
      revert i b6 b10 b11 b12 b13
      set_option synthInstance.maxHeartbeats 1000000 in
      set_option synthInstance.maxSize 1000000 in
      decide +kernel
    clear hi
    rcases hr with ⟨rfl, rfl⟩ | ⟨rfl, rfl, rfl⟩ | ⟨rfl, rfl, rfl, rfl⟩ | ⟨rfl, rfl⟩ | ⟨rfl, rfl, rfl, rfl⟩
    · have HQ := Lib.hid hI
      clear hI
      refine wpOp_walk rfl fun K' HK => ?_
      go_wp2_with fail
      refine (cloneS_any p.ea p.ec t.elems W HT.out.en (by omega) ((HT.out.es.below (Below.refl _ _).drew).below HQ.out.below)).mono ?_
      rintro e w' ⟨v, rfl, k1, k2⟩
      have HQ := Lib.hid (HQ.out.step6 k1 k2)
      clear k1 k2
      go_wp2_with fail
      exact HK.out _ _ ⟨HS.out _ HQ.out.below, _, _, _, _, _, _, _, _, _, _, by kernel_rfl, rfl, HQ.out⟩
    · have HQ := Lib.hid hI
      clear hI
      refine wpOp_walk rfl fun K' HK => ?_
      go_wp2_with fail
      refine (cloneB_any p.wa p.wc t.wrong W HT.out.wn HW.out ((HT.out.ws.below (Below.refl _ _).drew).below HQ.out.below)).mono ?_
      rintro e w' ⟨v, rfl, k1, k2⟩
      have HQ := Lib.hid (HQ.out.step10 k1 k2)
      clear k1 k2
      go_wp2_with fail
      exact HK.out _ _ ⟨HS.out _ HQ.out.below, _, _, _, _, _, _, _, _, _, _, by kernel_rfl, rfl, HQ.out⟩
    · obtain ⟨sa, sc, rfl⟩ := own_slice' (hI.s rfl)
      obtain ⟨ra, rc, rfl⟩ := own_slice' (hI.r rfl)
      have HQ := Lib.hid hI.step11
      clear hI
      refine wpOp_walk rfl fun K' HK => ?_
      go_wp2_with fail
      exact HK.out _ _ ⟨HS.out _ HQ.out.below, _, _, _, _, _, _, _, _, _, _, by kernel_rfl, rfl, HQ.out⟩
    · have HQ := Lib.hid hI.step12
      clear hI
      refine wpOp_walk rfl fun K' HK => ?_
      go_wp2_with fail
      exact HK.out _ _ ⟨HS.out _ HQ.out.below, _, _, _, _, _, _, _, _, _, _, by kernel_rfl, rfl, HQ.out⟩
    · obtain ⟨rfl, hB1, hbx⟩ := hI.bx rfl
      obtain rfl := hI.k rfl
      have hf10 := hI.fl.2.1 rfl
      have hf6 := hI.fl.1 hf10
      subst hf10
      subst hf6
      obtain ⟨sa, sc, e1⟩ := own_slice' (hI.s rfl)
      obtain ⟨ra, rc, e2⟩ := own_slice' (hI.r rfl)
      have HQ := Lib.hid hI
      clear hI
      refine wpOp_walk rfl fun K' HK => ?_
      refine wpList_store_row W (by rfl) 26 _ _ (by rfl) (by rfl) t0 HTI.out.1 B tb0 #[.string t.name, x12, .slice none 0 0, x16] 26 (by rfl) (by rfl) hbx (by rfl) HTI.out.2.2 ?_ ?_
      · intro v hv
        simp only [List.mem_cons, List.not_mem_nil, or_false] at hv
        rcases hv with rfl | rfl | rfl | rfl
        · rfl
        · rw [e1]; rfl
        · rfl
        · rw [e2]; rfl
      intro w' k1 k2
      have HQ := Lib.hid (HQ.out.step13 k1 k2)
      exact HK.out _ _ ⟨HS.out _ HQ.out.below, _, _, _, _, _, _, _, _, _, _, by kernel_rfl, rfl, HQ.out⟩
  case stop =>
    rintro L a W ⟨b6, b10, b11, b12, b13, x12, x16, x17, x3, B, rfl, rfl, hI⟩ hi
    have hr : b6 = true ∧ b10 = true ∧ b11 = true ∧ b12 = true ∧ b13 = true := by
      clear hI
      revert b6 b10 b11 b12 b13
      set_option synthInstance.maxHeartbeats 1000000 in
      set_option synthInstance.maxSize 1000000 in
      decide +kernel
    obtain ⟨rfl, rfl, rfl, rfl, rfl⟩ := hr
    clear hi
    obtain ⟨rfl, hB1, hbx⟩ := hI.bx rfl
    have HL := Lib.hid (hI.done (M.slm t).above)
    obtain rfl := hI.k rfl
    clear hI hB1 hbx
    have c1 := (HS.out _ HL.out.below).2.1
    go_wp2_with fail
    clear c1
    go_loopw [22] (fun i wr => ∃ (k : Nat) (v : Value), k ≤ t.elems.length ∧ i = .int .i64 k ∧ Hid (CpL (M.slm t) W0.drew W0.heap.size x12 x16 B ((M.slm t).above.take k) v v wr)) (fun i _ => t.elems.length - (intOf i).toNat)
    case atStart => exact ⟨0, _, by omega, rfl, by rw [List.take_zero]; exact HL⟩
    case round =>
      clear HL
      rename World => wr
      obtain ⟨k, v, hk, rfl, HK⟩ := hrel
      by_cases hkl : k < t.elems.length
      · have n1 : (k : Int) < (t.elems.length : Int) := by omega
        have n2 : (0 : Int) ≤ (k : Int) := by omega
        have hk12 : k < 12 := by omega
        have hkn : ∀ W : World, Below W0.heap.size W0.drew W → W.heap[w.heap.size]? = some (.cells (knA t p r) 62 (0, 0)) := fun W hW => by
          rw [hW.block _ (heap_lt HKN.out)]; exact HKN.out
        have HKW := Lib.hid hkn
        have h2k : 2 ^ k < 65536 := Nat.pow_lt_pow_right (a := 2) (n := 16) (by omega) (by omega)
        have HOF := Lib.hid (show ∀ W : World, Calls Try.prog 54 #[.slice (some ⟨W.heap.size, 0, none⟩) 1 1] (W.alloc (.cells #[.int .i64 k] 3)) fun e w' => e = .returned (.int .u16 (2 ^ k : Nat)) ∧ Below (W.alloc (.cells #[.int .i64 k] 3)).heap.size (W.alloc (.cells #[.int .i64 k] 3)) w' from fun W => (of_new k W hk12).mono fun e w' ⟨he, hw⟩ => ⟨he, by rw [← hw]; exact Below.refl _ _⟩)
        have HBY := Lib.hid (show ∀ W : World, Calls Try.prog 53 #[knV t p r, .int .u16 (2 ^ k : Nat)] W fun e w' => e = .returned (.int .u16 (M.bey r (2 ^ k) : Nat)) ∧ Below W.heap.size W w' from fun W => beyond_any t p r (2 ^ k) W HKL.out h2k)
        clear hkn h2k
        go_upto_region 5 with fail
        have hD := HK.out.new (Below.refl wr.heap.size wr).drew
        have hS := And.intro (HKW.out _ hD.below) (And.intro (Below.refl wr.heap.size wr).drew hD.below)
        clear hD
        refine wp_region_held (S := (fun W => W.heap[w.heap.size]? = some (.cells (knA t p r) 62 (0, 0)) ∧ Below wr.heap.size wr W ∧ Below W0.heap.size W0.drew W)) hmx ?_
        change wpAnyH _ _ _ _ _ _ _ _ (wr).drew
        refine wpAnyH_take (i := 0) (v := knV t p r) rfl (by kernel_rfl) (by kernel_rfl) (by kernel_rfl) (fun _ _ _ h => h) (Or.inl ⟨by kernel_rfl, ?_⟩) hS ?_
        · intro W' hSw
          obtain ⟨r1, _, _⟩ := hSw
          exact run_exec_load_row W' 62 _ (by rfl) ik HIK.out (knAgg _) w.heap.size (knA t p r) 62 (by rfl) r1 HKS.out
        dsimp only [List.getElem_toArray, List.getElem_cons_zero, List.getElem_cons_succ, Act.put, List.setIfInBounds_toArray, List.set_cons_zero, List.set_cons_succ]
        refine wpAnyH_take (i := 1) (v := .int .i64 k) rfl (by kernel_rfl) (by kernel_rfl) (by kernel_rfl) (fun _ _ _ h => h) (Or.inl ⟨by kernel_rfl, ?_⟩) hS ?_
        · intro W' hSw
          obtain ⟨r1, _, _⟩ := hSw
          go_simp
        dsimp only [List.getElem_toArray, List.getElem_cons_zero, List.getElem_cons_succ, Act.put, List.setIfInBounds_toArray, List.set_cons_zero, List.set_cons_succ]
        refine wpAnyH_one 2 (by kernel_rfl) rfl fun K' HZ => ?_
        go_wp2_with fail
        refine HZ.out _ _ ⟨⟨HKW.out _ (belowD1 hS.2.2 _), belowA hS.2.1 _, belowD1 hS.2.2 _⟩, ?_⟩
        clear HZ K'
        try dsimp only [List.getElem_toArray, List.getElem_cons_zero, List.getElem_cons_succ, Act.put, List.setIfInBounds_toArray, List.set_cons_zero, List.set_cons_succ]
        refine wpAnyH_call 3 54 #[.slice (some ⟨wr.drew.heap.size, 0, none⟩) 1 1] (.int .u16 (2 ^ k : Nat)) (by kernel_rfl) rfl (by kernel_rfl) (by kernel_rfl) (HOF.out _) ?_
        intro w11 hB
        have hS := And.intro (HKW.out _ ((belowD1 hS.2.2 _).trans (hB.mono (belowD1 hS.2.2 _).size))) (And.intro (below2 (belowA hS.2.1 _) hB) ((belowD1 hS.2.2 _).trans (hB.mono (belowD1 hS.2.2 _).size)))
        clear hB
        refine ⟨⟨hS.1, hS.2.1, hS.2.2⟩, ?_⟩
        dsimp only [List.getElem_toArray, List.getElem_cons_zero, List.getElem_cons_succ, Act.put, List.setIfInBounds_toArray, List.set_cons_zero, List.set_cons_succ]
        refine wpAnyH_call 4 53 #[knV t p r, .int .u16 (2 ^ k : Nat)] (.int .u16 (M.bey r (2 ^ k) : Nat)) (by kernel_rfl) rfl (by kernel_rfl) (by kernel_rfl) (HBY.out _) ?_
        intro w12 hB
        have hS := And.intro (HKW.out _ (hS.2.2.trans (hB.mono hS.2.2.size))) (And.intro (below2 hS.2.1 hB) (hS.2.2.trans (hB.mono hS.2.2.size)))
        clear hB
        refine ⟨⟨hS.1, hS.2.1, hS.2.2⟩, ?_⟩
        dsimp only [List.getElem_toArray, List.getElem_cons_zero, List.getElem_cons_succ, Act.put, List.setIfInBounds_toArray, List.set_cons_zero, List.set_cons_succ]
        refine wpAnyH_take (i := 5) (v := .int .u16 (M.bey r (2 ^ k) : Nat)) rfl (by kernel_rfl) (by kernel_rfl) (by kernel_rfl) (fun _ _ _ h => h) (Or.inl ⟨by kernel_rfl, ?_⟩) hS ?_
        · intro W' hSw
          obtain ⟨r1, _, _⟩ := hSw
          go_simp
        dsimp only [List.getElem_toArray, List.getElem_cons_zero, List.getElem_cons_succ, Act.put, List.setIfInBounds_toArray, List.set_cons_zero, List.set_cons_succ]
        try simp only [List.setIfInBounds_toArray, List.set_cons_succ, List.set_cons_zero]
        refine wpAnyH_done (by kernel_rfl) ?_ _
        have HK := Lib.hid (HK.out.new hS.2.1)
        have HLS := Lib.hid (show (M.slm t).above.take (k + 1) = (M.slm t).above.take k ++ [M.listN (M.slmR t k) 12] by
          have hl : k < (M.slm t).above.length := by rw [M.slm_len]; exact hkl
          rw [List.take_succ_eq_append_getElem hl, show (M.slm t).above[k] = M.listN (M.slmR t k) 12 by rw [← M.slm_at t hkl, getD_in _ _ _ hl]])
        have HSK := Lib.hid (HSM.out k)
        clear hS HOF HBY
        have hu16 : M.bey r (2 ^ k) < 4096 := M.bey_lt r HKL.out _
        generalize M.bey r (2 ^ k) = u at *
        have HBY := Lib.hid (show ∀ W : World, Calls Try.prog 53 #[knV t p r, .int .u16 (u : Nat)] W fun e w' => e = .returned (.int .u16 (M.bey r u : Nat)) ∧ Below W.heap.size W w' from fun W => beyond_any t p r u W HKL.out (by omega))
        have hz16 : M.bey r u < 4096 := M.bey_lt r HKL.out _
        generalize M.bey r u = z at *
        have HAN := Lib.hid (show bits .andNot .u16 (u : Nat) (z : Nat) = ((M.cut u z : Nat) : Int) from u16_andNot_nat _ _ (by omega) (by omega))
        have hy16 : M.cut u z < 4096 := M.cut_lt u z hu16
        generalize M.cut u z = y at *
        have HLI := Lib.hid (fun W : World => listF_any y W (by omega))
        rw [HSK.out] at HLS
        clear HSK hz16 hu16
        go_upto_region 6 with fail
        have HD := Lib.hid (HK.out.new (Below.refl w12.heap.size w12).drew)
        have hS := And.intro (HKW.out _ HD.out.below) HD.out.below
        refine wp_region_held (S := (fun W => W.heap[w.heap.size]? = some (.cells (knA t p r) 62 (0, 0)) ∧ Below W0.heap.size W0.drew W)) hmx ?_
        change wpAnyH _ _ _ _ _ _ _ _ (w12).drew
        refine wpAnyH_take (i := 0) (v := .pointer (some ⟨B, 2, none⟩)) rfl (by kernel_rfl) (by kernel_rfl) (by kernel_rfl) (fun _ _ _ h => h) (Or.inl ⟨by kernel_rfl, ?_⟩) hS ?_
        · intro W' hSw
          obtain ⟨r1, _⟩ := hSw
          go_simp
        dsimp only [List.getElem_toArray, List.getElem_cons_zero, List.getElem_cons_succ, Act.put, List.setIfInBounds_toArray, List.set_cons_zero, List.set_cons_succ]
        refine wpAnyH_take (i := 2) (v := .int .u16 (u : Nat)) rfl (by kernel_rfl) (by kernel_rfl) (by kernel_rfl) (fun _ _ _ h => h) (Or.inl ⟨by kernel_rfl, ?_⟩) hS ?_
        · intro W' hSw
          obtain ⟨r1, _⟩ := hSw
          go_simp
        dsimp only [List.getElem_toArray, List.getElem_cons_zero, List.getElem_cons_succ, Act.put, List.setIfInBounds_toArray, List.set_cons_zero, List.set_cons_succ]
        refine wpAnyH_take (i := 3) (v := knV t p r) rfl (by kernel_rfl) (by kernel_rfl) (by kernel_rfl) (fun _ _ _ h => h) (Or.inl ⟨by kernel_rfl, ?_⟩) hS ?_
        · intro W' hSw
          obtain ⟨r1, _⟩ := hSw
          exact run_exec_load_row W' 62 _ (by rfl) ik HIK.out (knAgg _) w.heap.size (knA t p r) 62 (by rfl) r1 HKS.out
        dsimp only [List.getElem_toArray, List.getElem_cons_zero, List.getElem_cons_succ, Act.put, List.setIfInBounds_toArray, List.set_cons_zero, List.set_cons_succ]
        refine wpAnyH_take (i := 4) (v := .int .u16 (u : Nat)) rfl (by kernel_rfl) (by kernel_rfl) (by kernel_rfl) (fun _ _ _ h => h) (Or.inl ⟨by kernel_rfl, ?_⟩) hS ?_
        · intro W' hSw
          obtain ⟨r1, _⟩ := hSw
          go_simp
        dsimp only [List.getElem_toArray, List.getElem_cons_zero, List.getElem_cons_succ, Act.put, List.setIfInBounds_toArray, List.set_cons_zero, List.set_cons_succ]
        simp only [List.setIfInBounds_toArray, List.set_cons_succ, List.set_cons_zero]
        refine wpAnyH_inv (fun L a W => ∃ c1 c5 c6 c7 c8 c9 c10 c11 y31 y35 y36 y37 y38 y39 y40, L = #[true, c1, true, true, true, c5, c6, c7, c8, c9, c10, c11] ∧ a = ⟨#[knV t p r, .pointer (some ⟨w.heap.size, 0, none⟩), .pointer (some ⟨w.heap.size + 1, 0, none⟩), .pointer (some ⟨B, 0, none⟩), .int .i64 k, .int .u16 (u : Nat), .pointer (some ⟨w.heap.size, 0, none⟩), .pointer (some ⟨w.heap.size, 0, none⟩), .string t.name, .pointer (some ⟨w.heap.size, 0, none⟩), .pointer (some ⟨w.heap.size, 1, none⟩), .slice p.ea t.elems.length p.ec, x12, .pointer (some ⟨w.heap.size, 0, none⟩), .pointer (some ⟨w.heap.size, 3, none⟩), .slice p.wa t.wrong.length p.wc, x16, .agg #[.string t.name, x12, .slice none 0 0, x16], .pointer (some ⟨w.heap.size, 0, none⟩), .pointer (some ⟨w.heap.size, 1, none⟩), .slice p.ea t.elems.length p.ec, .int .i64 t.elems.length, .int .i64 k, .bool true, .int .i64 k, knV t p r, .int .i64 k, .slice (some ⟨wr.heap.size, 0, none⟩) 1 1, .int .u16 (2 ^ k : Nat), .int .u16 (u : Nat), .pointer (some ⟨B, 2, none⟩), y31, .int .u16 (u : Nat), knV t p r, .int .u16 (u : Nat), y35, y36, y37, y38, y39, y40, u41, undef], []⟩ ∧ SlJ (M.slm t) W0.drew W0.heap.size x12 x16 B ((M.slm t).above.take k) v (M.listN y 12) (z : Nat) (y : Nat) w12.drew c1 c5 c6 c7 c8 c9 c11 y31 y35 y36 y37 y38 y39 W ∧ ((c10 = true → c9 = true ∧ y40 = .pointer (some ⟨B, 2, none⟩)) ∧ (c11 = true → c10 = true))) ?step ?stop _ _ _ _ (by decide) ?start
        case start => exact ⟨false, false, false, false, false, false, false, false, u31, u35, u36, u37, u38, u39, u40, by kernel_rfl, by rfl, SlJ.start HD.out, by simp, by simp⟩
        case step =>
          clear hS
          rintro L a W ⟨c1, c5, c6, c7, c8, c9, c10, c11, y31, y35, y36, y37, y38, y39, y40, rfl, rfl, hI, hX2⟩ i hi
          have HX2 := Lib.hid hX2
          clear hX2
          have hr : (i = 1 ∧ c1 = false) ∨ (i = 5 ∧ c5 = false) ∨ (i = 6 ∧ c6 = false ∧ c5 = true) ∨ (i = 7 ∧ c7 = false ∧ c6 = true) ∨ (i = 8 ∧ c8 = false ∧ c7 = true) ∨ (i = 9 ∧ c9 = false ∧ c8 = true ∧ c1 = true) ∨ (i = 10 ∧ c10 = false ∧ c9 = true) ∨ (i = 11 ∧ c11 = false ∧ c10 = true ∧ c9 = true) := by
            clear hI HX2
            revert i c1 c5 c6 c7 c8 c9 c10 c11
            set_option synthInstance.maxHeartbeats 1000000 in
            set_option synthInstance.maxSize 1000000 in
            decide +kernel
          clear hi
          rcases hr with ⟨rfl, rfl⟩ | ⟨rfl, rfl⟩ | ⟨rfl, rfl, rfl⟩ | ⟨rfl, rfl, rfl⟩ | ⟨rfl, rfl, rfl⟩ | ⟨rfl, rfl, rfl, rfl⟩ | ⟨rfl, rfl, rfl⟩ | ⟨rfl, rfl, rfl, rfl⟩
          · have hc := hI.cell
            have HQ := Lib.hid hI.step1
            clear hI
            refine wpOp_walk rfl fun K' HZ => ?_
            go_wp2_with fail
            exact HZ.out _ _ ⟨⟨HKW.out _ HQ.out.below, HQ.out.below⟩, _, _, _, _, _, _, _, _, _, _, _, _, _, _, _, by kernel_rfl, rfl, HQ.out, HX2.out⟩
          · have HQ := Lib.hid hI
            clear hI
            refine wpOp_walk rfl fun K' HZ => ?_
            go_wp2_with fail
            refine (HBY.out W).mono ?_
            rintro e w' ⟨rfl, hB⟩
            have HQ := Lib.hid (HQ.out.step5 hB)
            clear hB
            go_wp2_with fail
            exact HZ.out _ _ ⟨⟨HKW.out _ HQ.out.below, HQ.out.below⟩, _, _, _, _, _, _, _, _, _, _, _, _, _, _, _, by kernel_rfl, rfl, HQ.out, HX2.out⟩
          · obtain rfl := hI.k5 rfl
            have HQ := Lib.hid hI.step6
            clear hI
            refine wpOp_walk rfl fun K' HZ => ?_
            go_wp2_with fail
            rw [HAN.out]
            exact HZ.out _ _ ⟨⟨HKW.out _ HQ.out.below, HQ.out.below⟩, _, _, _, _, _, _, _, _, _, _, _, _, _, _, _, by kernel_rfl, rfl, HQ.out, HX2.out⟩
          · obtain rfl := hI.k6 rfl
            have HQ := Lib.hid hI
            clear hI
            refine wpOp_walk rfl fun K' HZ => ?_
            go_wp2_with fail
            refine (HLI.out W).mono ?_
            rintro e w' ⟨la, lc, rfl, h1, h2, h3, h4, hB⟩
            have HQ := Lib.hid (HQ.out.step7 hB h1 h2 h3 h4)
            clear h1 h2 h3 h4 hB
            go_wp2_with fail
            exact HZ.out _ _ ⟨⟨HKW.out _ HQ.out.below, HQ.out.below⟩, _, _, _, _, _, _, _, _, _, _, _, _, _, _, _, by kernel_rfl, rfl, HQ.out, HX2.out⟩
          · have HQ := Lib.hid hI.step8
            obtain ⟨q8, q9⟩ := hI.n9 (Or.inr rfl)
            obtain ⟨za, zc, rfl, _, _, _⟩ := hI.k7 rfl rfl
            clear hI
            refine wpOp_walk rfl fun K' HZ => ?_
            go_wp2_with fail
            exact HZ.out _ _ ⟨⟨HKW.out _ HQ.out.below, HQ.out.below⟩, _, _, _, _, _, _, _, _, _, _, _, _, _, _, _, by kernel_rfl, rfl, HQ.out, HX2.out⟩
          · obtain ⟨rfl, hnst, hle, g, ga, gc, rfl, q1, q2, q3, q4⟩ := hI.for9
            obtain ⟨va, vc, ev⟩ := hnst.slice
            have HQ := Lib.hid hI
            clear hI
            refine wpOp_walk rfl fun K' HZ => ?_
            refine wpList_append_nestQ (f := Value.int .i64) W (by rfl) _ _ _ (by rfl) _ r0 Try.underlying23 HN1.out.1 HN1.out.2.1 HN1.out.2.2.1 HN1.out.2.2.2 W0.heap.size _ ((M.slm t).above.take k) (by rfl) hnst hle ⟨g, 0, none⟩ 1 ga (M.listN y 12) gc (by rfl) q1 (by rw [List.length_take]; omega) q2 q3 q4 ?_
            intro g' c' w' k1 k2 k3
            have HQ := Lib.hid (HQ.out.step9 k1 k2 k3)
            have HX2 := Lib.hid (show (c10 = true → true = true ∧ y40 = .pointer (some ⟨B, 2, none⟩)) ∧ (c11 = true → c10 = true) from ⟨fun q => ⟨rfl, (HX2.out.1 q).2⟩, HX2.out.2⟩)
            exact HZ.out _ _ ⟨⟨HKW.out _ HQ.out.below, HQ.out.below⟩, _, _, _, _, _, _, _, _, _, _, _, _, _, _, _, by kernel_rfl, rfl, HQ.out, HX2.out⟩
          · have HQ := Lib.hid hI
            clear hI
            refine wpOp_walk rfl fun K' HZ => ?_
            go_wp2_with fail
            exact HZ.out _ _ ⟨⟨HKW.out _ HQ.out.below, HQ.out.below⟩, _, _, _, _, _, _, _, _, _, _, _, _, _, _, _, by kernel_rfl, rfl, HQ.out, fun _ => ⟨rfl, rfl⟩, fun _ => rfl⟩
          · obtain ⟨_, rfl⟩ := HX2.out.1 rfl
            obtain ⟨q1, q2, za, zn, zc, rfl⟩ := hI.for11
            have HQ := Lib.hid hI.step11
            clear hI
            refine wpOp_walk rfl fun K' HZ => ?_
            go_wp2_with fail
            exact HZ.out _ _ ⟨⟨HKW.out _ HQ.out.below, HQ.out.below⟩, _, _, _, _, _, _, _, _, _, _, _, _, _, _, _, by kernel_rfl, rfl, HQ.out, fun _ => ⟨rfl, rfl⟩, fun _ => rfl⟩
        case stop =>
          rintro L a W ⟨c1, c5, c6, c7, c8, c9, c10, c11, y31, y35, y36, y37, y38, y39, y40, rfl, rfl, hI, hX⟩ hi
          clear hX
          have hr : c1 = true ∧ c5 = true ∧ c6 = true ∧ c7 = true ∧ c8 = true ∧ c9 = true ∧ c10 = true ∧ c11 = true := by
            clear hI
            revert c1 c5 c6 c7 c8 c9 c10 c11
            set_option synthInstance.maxHeartbeats 1000000 in
            set_option synthInstance.maxSize 1000000 in
            decide +kernel
          obtain ⟨rfl, rfl, rfl, rfl, rfl, rfl, rfl, rfl⟩ := hr
          have HE := Lib.hid (hI.k11 rfl)
          clear hi hI hS
          go_wp2_with fail
          go_roundw
          case rel => exact ⟨k + 1, _, by omega, by go_num, Lib.hid (by rw [HLS.out]; exact HE.out)⟩
          case measure => simp [intOf]; omega
      · obtain rfl : k = t.elems.length := by omega
        have m1 : decide ((t.elems.length : Int) < (t.elems.length : Int)) = false := decide_eq_false (by omega)
        have hKK := HK.out
        rw [List.take_of_length_le (by rw [M.slm_len]; omega)] at hKK
        have hN := hKK.nz
        have hsz := HSZ.out
        obtain ⟨p', hb', ht'⟩ := hKK.table
        have hbl := hKK.below
        have ho : wr.heap[w.heap.size + 1]? = some (.cells tb0 26 (0, 0)) := by
          rw [hbl.block _ (by have := HSZ.out; omega)]
          exact HY.out
        have hne : B ≠ w.heap.size + 1 := by have := hKK.hB; have := HSZ.out; omega
        have HB' := Lib.hid hb'
        have HT' := Lib.hid ht'
        have HBL := Lib.hid hbl
        have HO := Lib.hid ho
        clear hb' ht' hbl ho hKK HK hN hsz
        go_wp2_with (first
          | (refine wpList_load_row _ rfl 26 _ rfl t0 HTI.out.1 (by kernel_rfl) B (tbA (M.slm t) p') 26 rfl HB'.out HTI.out.2.2 ?_)
          | (refine wpList_store_row _ rfl 26 _ _ rfl rfl t0 HTI.out.1 (w.heap.size + 1) tb0 (tbA (M.slm t) p') 26 rfl rfl HO.out rfl HTI.out.2.2 (by intro v hv; simp only [List.mem_cons, List.not_mem_nil, or_false] at hv; rcases hv with rfl | rfl | rfl | rfl <;> rfl) ?_; intro w3 h3 hg3; have H3 := Lib.hid h3; clear h3))
        obtain ⟨q0, q1, q2, q3⟩ := tbBox (t := M.slm t) (p := p') H3.out
        have hsz := HSZ.out
        have hBf : Below w.heap.size w w3 := (below2 HBB.out ((Below.refl _ _).drew.trans HBL.out)).grown hg3 (by have := HBL.out.size; simp at this; omega) (fun k e => by cases e; omega)
        exact bodyPost_ret (v := tbV (M.slm t) p') (by simp [results, Try.results29, go_sem, q0, q1, q2, q3]) rfl ⟨p', rfl, fun W k1 k2 => HT'.out W (Nat.le_trans hg3.size k1) (fun g h1 h2 => by rw [k2 g (by omega) (Nat.lt_of_lt_of_le h2 hg3.size)]; exact hg3.block g h2 (fun e => by injection e with e; omega)), hBf⟩
end Go.Proofs.Ytnhnjfoboepffaa
