/- Texts of one's own, joined: OrdBf, OrdBe, OrdBh, OrdRow. -/
import Derived.Test.YtlpindnbkgaplaaGr11
import Derived.Test.YtlpindnbkgaplaaGr3
import Derived.Test.YtlpindnbkgaplaaGr5
import Derived.Test.YtlpindnbkgaplaaGr1
import Derived.Test.YtlpindnbkgaplaaGr8
import Derived.Test.YtlpindnbkgaplaaGr6
import Derived.Test.YtlpindnbkgaplaaRows
import Derived.ProofKit
import Derived.OpenShut
import Derived.Deep.Slices
import Derived.Deep.Fields
import Derived.Lib.SmallJoins
import Derived.ChangeSame
import Derived.ChangeOld
import Derived.Carry
namespace Go.Proofs.Ytlpindnbkgaplaa
open Go.RowKit

abbrev intCs (l : List Int) : List Value := l.map (Value.int .i64)
structure CpJ (t : M.Tb) (w0 : World) (N : Nat) (s r : Value) (B : Nat) (rows : List (List Int)) (vb : Value) (l : List Int) (wr : World) (b1 b2 b8 b9 b10 b11 b12 : Bool) (x24 x25 x31 x32 x33 x34 : Value) (W : World) : Prop where
  fl : (b8 = true → b2 = true) ∧ (b9 = true → b8 = true) ∧ (b10 = true → b9 = true ∧ b1 = true) ∧ (b11 = true → b10 = true) ∧ (b12 = true → b11 = true)
  at_ : CpL t w0 N s r B rows vb vb wr
  bel : b10 = false → Below wr.heap.size wr W
  k1 : b1 = true → x24 = vb
  k2 : b2 = true → b8 = false → x25 ≠ .slice none 0 0 ∧ W.ownsRow wr.heap.size 3 1 x25 ([] : List Int).length (intCs [])
  k8 : b8 = true → b9 = false → W.ownsRow wr.heap.size 3 1 x31 l.length (intCs l)
  k9 : b9 = true → b10 = false → ∃ g ra rc, x32 = .slice (some ⟨g, 0, none⟩) 1 1 ∧ W.cell? ⟨g, 0, none⟩ = some (.slice ra l.length rc) ∧ (ra = none → rc = 0) ∧ l.length ≤ rc ∧ (l = [] ∨ ∃ b off, ra = some ⟨b, off, none⟩ ∧ wr.heap.size ≤ b ∧ CelAt (Value.int .i64) W b off l)
  k10 : b10 = true → b12 = false → CpL t w0 N s r B (rows ++ [l]) vb x33 W
  k11 : b11 = true → x34 = .pointer (some ⟨B, 2, none⟩)
  k12 : b12 = true → CpL t w0 N s r B (rows ++ [l]) x33 x33 W
section
variable {t : M.Tb} {w0 : World} {N : Nat} {s r : Value} {B : Nat} {rows : List (List Int)} {vb : Value} {l : List Int} {wr : World} {b1 b2 b8 b9 b10 b11 b12 : Bool} {x24 x25 x31 x32 x33 x34 : Value} {W : World}
theorem CpJ.below (h : CpJ t w0 N s r B rows vb l wr b1 b2 b8 b9 b10 b11 b12 x24 x25 x31 x32 x33 x34 W) : Below N w0 W := by
  cases hb : b10 with
  | false => exact (h.at_.new (h.bel hb)).below
  | true =>
    cases hc : b12 with
    | false => exact (h.k10 hb hc).below
    | true => exact (h.k12 hc).below
theorem CpJ.start (h : CpL t w0 N s r B rows vb vb wr) : CpJ t w0 N s r B rows vb l wr false false false false false false false x24 x25 x31 x32 x33 x34 wr :=
  ⟨⟨by simp, by simp, by simp, by simp, by simp⟩, h, fun _ => Below.refl _ _, by simp, by simp, by simp, by simp, by simp, by simp, by simp⟩
theorem CpJ.no10 (h : CpJ t w0 N s r B rows vb l wr b1 b2 b8 b9 b10 b11 b12 x24 x25 x31 x32 x33 x34 W) (h1 : b1 = false ∨ b9 = false) : b10 = false := by
  cases hb : b10 with
  | false => rfl
  | true =>
    obtain ⟨q1, q2⟩ := h.fl.2.2.1 hb
    rcases h1 with e | e
    · rw [e] at q2; cases q2
    · rw [e] at q1; cases q1
theorem CpJ.cell (h : CpJ t w0 N s r B rows vb l wr false b2 b8 b9 b10 b11 b12 x24 x25 x31 x32 x33 x34 W) : W.cell? ⟨B, 2, none⟩ = some vb := by
  rw [Lib.cell_of_heap (h.at_.new (h.bel (h.no10 (Or.inl rfl)))).bx]; rfl
theorem CpJ.step1 (h : CpJ t w0 N s r B rows vb l wr false b2 b8 b9 b10 b11 b12 x24 x25 x31 x32 x33 x34 W) : CpJ t w0 N s r B rows vb l wr true b2 b8 b9 b10 b11 b12 vb x25 x31 x32 x33 x34 W :=
  ⟨⟨h.fl.1, h.fl.2.1, fun q => ⟨(h.fl.2.2.1 q).1, rfl⟩, h.fl.2.2.2⟩, h.at_, h.bel, fun _ => rfl, h.k2, h.k8, h.k9, h.k10, h.k11, h.k12⟩
theorem CpJ.no8 (h : CpJ t w0 N s r B rows vb l wr b1 false b8 b9 b10 b11 b12 x24 x25 x31 x32 x33 x34 W) : b8 = false ∧ b9 = false ∧ b10 = false ∧ b11 = false ∧ b12 = false := by
  have h8 : b8 = false := by cases hb : b8; rfl; exact absurd (h.fl.1 hb) (by simp)
  have h9 : b9 = false := by cases hb : b9; rfl; exact absurd (h.fl.2.1 hb) (by simp [h8])
  have h10 : b10 = false := h.no10 (Or.inr h9)
  have h11 : b11 = false := by cases hb : b11; rfl; exact absurd (h.fl.2.2.2.1 hb) (by simp [h10])
  have h12 : b12 = false := by cases hb : b12; rfl; exact absurd (h.fl.2.2.2.2 hb) (by simp [h11])
  exact ⟨h8, h9, h10, h11, h12⟩
theorem CpJ.step2 (h : CpJ t w0 N s r B rows vb l wr b1 false b8 b9 b10 b11 b12 x24 x25 x31 x32 x33 x34 W) :
    CpJ t w0 N s r B rows vb l wr b1 true b8 b9 b10 b11 b12 x24 (.slice (some ⟨W.heap.size, 0, none⟩) 0 0) x31 x32 x33 x34 (W.alloc (.cells #[] 3)) := by
  obtain ⟨rfl, rfl, rfl, rfl, rfl⟩ := h.no8
  have hb := h.bel rfl
  exact ⟨⟨by simp, by simp, by simp, by simp, by simp⟩, h.at_, fun _ => belowA hb _, h.k1, fun _ _ => ⟨by simp, own_made W wr.heap.size _ 1 hb.size⟩, by simp, by simp, by simp, by simp, by simp⟩
theorem CpJ.no9 (h : CpJ t w0 N s r B rows vb l wr b1 b2 false b9 b10 b11 b12 x24 x25 x31 x32 x33 x34 W) : b9 = false ∧ b10 = false ∧ b11 = false ∧ b12 = false := by
  have h9 : b9 = false := by cases hb : b9; rfl; exact absurd (h.fl.2.1 hb) (by simp)
  have h10 : b10 = false := h.no10 (Or.inr h9)
  have h11 : b11 = false := by cases hb : b11; rfl; exact absurd (h.fl.2.2.2.1 hb) (by simp [h10])
  have h12 : b12 = false := by cases hb : b12; rfl; exact absurd (h.fl.2.2.2.2 hb) (by simp [h11])
  exact ⟨h9, h10, h11, h12⟩
theorem CpJ.step8 (h : CpJ t w0 N s r B rows vb l wr b1 true false b9 b10 b11 b12 x24 x25 x31 x32 x33 x34 W) {v : Value} {w' : World} (q1 : w'.ownsRow wr.heap.size 3 1 v ([] ++ l).length (([] ++ l).map (Value.int .i64))) (q2 : W.grownBy w' x25.ownBlock) :
    CpJ t w0 N s r B rows vb l wr b1 true true b9 b10 b11 b12 x24 x25 v x32 x33 x34 w' := by
  obtain ⟨rfl, rfl, rfl, rfl⟩ := h.no9
  have hb := h.bel rfl
  obtain ⟨_, k2⟩ := h.k2 rfl rfl
  exact ⟨⟨by simp, by simp, by simp, by simp, by simp⟩, h.at_, fun _ => hb.grown q2 hb.size (fun g hg => (own_lt k2 hg).1), h.k1, by simp, fun _ _ => q1, by simp, by simp, by simp, by simp⟩
theorem CpJ.no10' (h : CpJ t w0 N s r B rows vb l wr b1 b2 b8 false b10 b11 b12 x24 x25 x31 x32 x33 x34 W) : b10 = false ∧ b11 = false ∧ b12 = false := by
  have h10 : b10 = false := h.no10 (Or.inr rfl)
  have h11 : b11 = false := by cases hb : b11; rfl; exact absurd (h.fl.2.2.2.1 hb) (by simp [h10])
  have h12 : b12 = false := by cases hb : b12; rfl; exact absurd (h.fl.2.2.2.2 hb) (by simp [h11])
  exact ⟨h10, h11, h12⟩
theorem CpJ.step9 (h : CpJ t w0 N s r B rows vb l wr b1 b2 true false b10 b11 b12 x24 x25 x31 x32 x33 x34 W) :
    CpJ t w0 N s r B rows vb l wr b1 b2 true true b10 b11 b12 x24 x25 x31 (.slice (some ⟨W.heap.size, 0, none⟩) 1 1) x33 x34 (W.alloc (.cells #[x31] 39)) := by
  obtain ⟨rfl, rfl, rfl⟩ := h.no10'
  have hb := h.bel rfl
  have k8 := h.k8 rfl rfl
  have hlow := fun g (hg : x31.ownBlock = some g) => (own_lt k8 hg).1
  obtain ⟨ra, rc, rfl, q1, q2, q3⟩ := own_cel k8
  refine ⟨⟨h.fl.1, by simp, by simp, by simp, by simp⟩, h.at_, fun _ => belowA hb _, h.k1, by simp, by simp, fun _ _ => ⟨W.heap.size, ra, rc, rfl, World.cell?_alloc_at _ _ _ _ rfl, q1, q2, ?_⟩, by simp, by simp, by simp⟩
  rcases q3 with q | ⟨b, off, e, hc⟩
  · exact Or.inl q
  · exact Or.inr ⟨b, off, e, hlow b (by rw [e]; rfl), hc.below (below1 _ _)⟩
theorem CpJ.no11 (h : CpJ t w0 N s r B rows vb l wr b1 b2 b8 b9 false b11 b12 x24 x25 x31 x32 x33 x34 W) : b11 = false ∧ b12 = false := by
  have h11 : b11 = false := by cases hb : b11; rfl; exact absurd (h.fl.2.2.2.1 hb) (by simp)
  have h12 : b12 = false := by cases hb : b12; rfl; exact absurd (h.fl.2.2.2.2 hb) (by simp [h11])
  exact ⟨h11, h12⟩
/-- What the second append of a round wants. -/
theorem CpJ.for10 (h : CpJ t w0 N s r B rows vb l wr true b2 b8 true false b11 b12 x24 x25 x31 x32 x33 x34 W) :
    x24 = vb ∧ NestQ (fun b => b ≠ B ∧ N ≤ b) (Value.int .i64) W N 39 vb rows ∧ N ≤ W.heap.size ∧ ∃ g ra rc, x32 = .slice (some ⟨g, 0, none⟩) 1 1 ∧ W.cell? ⟨g, 0, none⟩ = some (.slice ra l.length rc) ∧ (ra = none → rc = 0) ∧ l.length ≤ rc ∧ (l = [] ∨ ∃ b off, ra = some ⟨b, off, none⟩ ∧ some b ≠ vb.ownBlock ∧ (b ≠ B ∧ N ≤ b) ∧ CelAt (Value.int .i64) W b off l) := by
  have hb := h.bel rfl
  have hL := h.at_.new hb
  obtain ⟨g, ra, rc, e, q1, q2, q3, q4⟩ := h.k9 rfl rfl
  refine ⟨h.k1 rfl, hL.nst, hL.le, g, ra, rc, e, q1, q2, q3, ?_⟩
  rcases q4 with q | ⟨b, off, e, hlo, hc⟩
  · exact Or.inl q
  · refine Or.inr ⟨b, off, e, fun e' => ?_, ⟨fun e' => ?_, Nat.le_trans h.at_.le hlo⟩, hc⟩
    · have := (nest_lt h.at_.nst e'.symm).2; omega
    · have := heap_lt h.at_.bx; omega
theorem CpJ.step10 (h : CpJ t w0 N s r B rows vb l wr true b2 b8 true false b11 b12 x24 x25 x31 x32 x33 x34 W) {g n c : Nat} {w' : World} (hn : NestQ (fun b => b ≠ B ∧ N ≤ b) (Value.int .i64) w' N 39 (.slice (some ⟨g, 0, none⟩) n c) (rows ++ [l])) (hg : W.grownBy w' vb.ownBlock) (hb : some g = vb.ownBlock ∨ g = W.heap.size) :
    CpJ t w0 N s r B rows vb l wr true b2 b8 true true b11 b12 x24 x25 x31 x32 (.slice (some ⟨g, 0, none⟩) n c) x34 w' := by
  obtain ⟨rfl, rfl⟩ := h.no11
  exact ⟨⟨h.fl.1, h.fl.2.1, by simp, by simp, by simp⟩, h.at_, by simp, h.k1, fun q q' => absurd (h.fl.2.1 rfl) (by simp [q']), by simp, by simp, fun _ _ => (h.at_.new (h.bel rfl)).push hn hg hb, by simp, by simp⟩
theorem CpJ.step11 (h : CpJ t w0 N s r B rows vb l wr b1 b2 b8 b9 true false b12 x24 x25 x31 x32 x33 x34 W) : CpJ t w0 N s r B rows vb l wr b1 b2 b8 b9 true true b12 x24 x25 x31 x32 x33 (.pointer (some ⟨B, 2, none⟩)) W :=
  ⟨⟨h.fl.1, h.fl.2.1, h.fl.2.2.1, by simp, by simp⟩, h.at_, h.bel, h.k1, h.k2, h.k8, h.k9, h.k10, fun _ => rfl, h.k12⟩
theorem CpJ.for12 (h : CpJ t w0 N s r B rows vb l wr b1 b2 b8 b9 true true false x24 x25 x31 x32 x33 x34 W) : x34 = .pointer (some ⟨B, 2, none⟩) ∧ W.cell? ⟨B, 2, none⟩ = some vb ∧ W.frozen? ⟨B, 2, none⟩ = false ∧ ∃ a n c, x33 = .slice a n c := by
  have hL := h.k10 rfl rfl
  obtain ⟨a, c, e⟩ := hL.nst.slice
  exact ⟨h.k11 rfl, by rw [Lib.cell_of_heap hL.bx]; rfl, by simp [World.frozen?, hL.bx], a, _, c, e⟩
theorem CpJ.step12 (h : CpJ t w0 N s r B rows vb l wr b1 b2 b8 b9 true true false x24 x25 x31 x32 x33 x34 W) : CpJ t w0 N s r B rows vb l wr b1 b2 b8 b9 true true true x24 x25 x31 x32 x33 x34 (W.setCell ⟨B, 2, none⟩ x33) :=
  ⟨⟨h.fl.1, h.fl.2.1, h.fl.2.2.1, by simp, by simp⟩, h.at_, by simp, h.k1, fun q q' => absurd (h.fl.2.1 (h.fl.2.2.1 rfl).1) (by simp [q']), fun _ q => absurd (h.fl.2.2.1 rfl).1 (by simp [q]), by simp, by simp, h.k11, fun _ => (h.k10 rfl rfl).set⟩
end
end Go.Proofs.Ytlpindnbkgaplaa

namespace Go.Proofs.Ytlpindnbkgaplaa
open Go.RowKit

theorem intsInfo : (Try.prog.info? 39).map (fun i => (i.zero, i.size, i.bytes)) = some (some (.slice none 0 0), 1, 24) := by kernel_rfl
theorem tabInfo : (Try.prog.info? 26).map (fun i => (i.zero, i.size, i.bytes)) = some (some (.agg tb0), 4, 88) := by kernel_rfl
set_option maxHeartbeats 8000000 in
set_option maxRecDepth 100000 in
theorem copy_any (t : M.Tb) (p : Tp) (w : World) (h1 : t.elems.length ≤ 1000000) (h2 : t.above.length ≤ 1000000) (h3 : t.wrong.length ≤ 1000000) (h4 : ∀ l, l ∈ t.above → l.length ≤ 1000000) (ht : TbIn w t p) :
    Calls Try.prog 9 #[tbV t p] w fun e w' => ∃ p', e = .returned (tbV t p') ∧ TbIn w' t p' ∧ Below w.heap.size w w' := by
  have hmx : Try.prog.follows .mixedOrders = true := by kernel_rfl
  obtain ⟨i0, hi, hz0, hz1, hz2⟩ := info_parts strInfo
  obtain ⟨j0, hj, hy0, hy1, hy2⟩ := info_parts boolInfo
  obtain ⟨t0, hti, htz, hts, _⟩ := info_parts tabInfo
  obtain ⟨q0, hq, hq0, hq1, hq2⟩ := info_parts intInfo
  obtain ⟨r0, hrr, hr0, hr1, hr2⟩ := info_parts intsInfo
  have HN0 := Lib.hid (And.intro hq (And.intro hq0 (And.intro hq1 hq2)))
  have HN1 := Lib.hid (And.intro hrr (And.intro hr0 (And.intro hr1 hr2)))
  clear hq hq0 hq1 hq2 hrr hr0 hr1 hr2
  have HI := Lib.hid (And.intro hi (And.intro hz0 (And.intro hz1 hz2)))
  have HJ := Lib.hid (And.intro hj (And.intro hy0 (And.intro hy1 hy2)))
  have HTI := Lib.hid (And.intro hti (And.intro htz hts))
  clear hi hz0 hz1 hz2 hj hy0 hy1 hy2 hti htz hts
  have hBB : Below w.heap.size w ((w.alloc (.cells (tbA t p) 26)).alloc (.cells tb0 26)) := belowA (below1 _ _) _
  have HX := Lib.hid ((tbBox (t := t) (p := p) (box_new w (tbA t p) 26)).below (below1 _ (.cells tb0 26)))
  have HY := Lib.hid (box_last w (.cells (tbA t p) 26) tb0 26)
  have HT := Lib.hid (ht.below hBB)
  have HBB := Lib.hid hBB
  have H1 := Lib.hid h1
  have H2 := Lib.hid h2
  have H3 := Lib.hid h3
  have H4 := Lib.hid h4
  clear ht h1 h2 h3 h4 hBB
  go_enter Try.func9, Try.ntmps9
  go_wp2_with fail
  have HSZ := Lib.hid (show ((w.alloc (.cells (tbA t p) 26)).alloc (.cells tb0 26)).heap.size = w.heap.size + 1 + 1 from by rw [World.size_alloc, World.size_alloc])
  generalize hW0 : (w.alloc (.cells (tbA t p) 26)).alloc (.cells tb0 26) = W0 at *
  have hS : ∀ W : World, Below W0.heap.size W0.drew W → W.cell? ⟨w.heap.size, 0, none⟩ = some (.string t.name) ∧ W.cell? ⟨w.heap.size, 1, none⟩ = some (.slice p.ea t.elems.length p.ec) ∧ W.cell? ⟨w.heap.size, 3, none⟩ = some (.slice p.wa t.wrong.length p.wc) := fun W hW => by
    have hb := (HX.out.below (Below.refl _ _).drew).below hW
    exact ⟨hb.c0, hb.c1, hb.c3⟩
  have HS := Lib.hid hS
  have hS0 := hS _ (Below.refl _ _)
  clear hS
  refine wp_region_held (S := fun W => W.cell? ⟨w.heap.size, 0, none⟩ = some (.string t.name) ∧ W.cell? ⟨w.heap.size, 1, none⟩ = some (.slice p.ea t.elems.length p.ec) ∧ W.cell? ⟨w.heap.size, 3, none⟩ = some (.slice p.wa t.wrong.length p.wc)) hmx ?_
  change wpAnyH _ _ _ _ _ _ _ _ W0.drew
  refine wpAnyH_take (i := 0) (v := .pointer (some ⟨w.heap.size, 0, none⟩)) rfl (by kernel_rfl) (by kernel_rfl) (by kernel_rfl) (fun _ _ _ h => h) (Or.inl ⟨by rfl, ?_⟩) hS0 ?_
  · intro W hSw
    obtain ⟨s0, s1, s3⟩ := hSw
    go_simp
  dsimp only [Act.put, List.setIfInBounds_toArray, List.set_cons_zero, List.set_cons_succ]
  refine wpAnyH_take (i := 1) (v := .string t.name) rfl (by kernel_rfl) (by kernel_rfl) (by kernel_rfl) (fun _ _ _ h => h) (Or.inl ⟨by rfl, ?_⟩) hS0 ?_
  · intro W hSw
    obtain ⟨s0, s1, s3⟩ := hSw
    go_simp
  dsimp only [Act.put, List.setIfInBounds_toArray, List.set_cons_zero, List.set_cons_succ]
  refine wpAnyH_take (i := 3) (v := .pointer (some ⟨w.heap.size, 1, none⟩)) rfl (by kernel_rfl) (by kernel_rfl) (by kernel_rfl) (fun _ _ _ h => h) (Or.inl ⟨by rfl, ?_⟩) hS0 ?_
  · intro W hSw
    obtain ⟨s0, s1, s3⟩ := hSw
    go_simp
  dsimp only [Act.put, List.setIfInBounds_toArray, List.set_cons_zero, List.set_cons_succ]
  refine wpAnyH_take (i := 4) (v := .slice p.ea t.elems.length p.ec) rfl (by kernel_rfl) (by kernel_rfl) (by kernel_rfl) (fun _ _ _ h => h) (Or.inl ⟨by rfl, ?_⟩) hS0 ?_
  · intro W hSw
    obtain ⟨s0, s1, s3⟩ := hSw
    go_simp
  dsimp only [Act.put, List.setIfInBounds_toArray, List.set_cons_zero, List.set_cons_succ]
  refine wpAnyH_take (i := 7) (v := .pointer (some ⟨w.heap.size, 3, none⟩)) rfl (by kernel_rfl) (by kernel_rfl) (by kernel_rfl) (fun _ _ _ h => h) (Or.inl ⟨by rfl, ?_⟩) hS0 ?_
  · intro W hSw
    obtain ⟨s0, s1, s3⟩ := hSw
    go_simp
  dsimp only [Act.put, List.setIfInBounds_toArray, List.set_cons_zero, List.set_cons_succ]
  refine wpAnyH_take (i := 8) (v := .slice p.wa t.wrong.length p.wc) rfl (by kernel_rfl) (by kernel_rfl) (by kernel_rfl) (fun _ _ _ h => h) (Or.inl ⟨by rfl, ?_⟩) hS0 ?_
  · intro W hSw
    obtain ⟨s0, s1, s3⟩ := hSw
    go_simp
  dsimp only [Act.put, List.setIfInBounds_toArray, List.set_cons_zero, List.set_cons_succ]
  refine wpAnyH_inv (fun L a W => ∃ b2 b5 b6 b9 b10 b11 b12 x3 x7 x10 x11 x14 x15 s r B, L = #[true, true, b2, true, true, b5, b6, true, true, b9, b10, b11, b12] ∧ a = ⟨#[tbV t p, .pointer (some ⟨w.heap.size, 0, none⟩), .pointer (some ⟨w.heap.size + 1, 0, none⟩), x3, undef, .pointer (some ⟨w.heap.size, 0, none⟩), .string t.name, x7, .pointer (some ⟨w.heap.size, 1, none⟩), .slice p.ea t.elems.length p.ec, x10, x11, .pointer (some ⟨w.heap.size, 3, none⟩), .slice p.wa t.wrong.length p.wc, x14, x15, undef, undef, undef, undef, undef, undef, undef, undef, undef, undef, undef, undef, undef, undef, undef, undef, undef, undef, undef, undef], []⟩ ∧ CpI t W0.drew W0.heap.size b2 b5 b6 b9 b10 b11 b12 x3 x7 x10 x11 x14 x15 s r B W) ?step ?stop _ _ _ _ (by decide) ?start
  case start =>
    refine ⟨false, false, false, false, false, false, false, undef, undef, undef, undef, undef, undef, undef, undef, 0, by kernel_rfl, by rfl, ?_⟩
    refine ⟨⟨by simp, by simp, by simp, by simp⟩, Nat.le_refl _, Below.refl _ _, by simp, by simp, by simp, by simp, by simp, by simp, by simp, by simp, by simp⟩
  case step =>
    rintro L a W ⟨b2, b5, b6, b9, b10, b11, b12, x3, x7, x10, x11, x14, x15, s, r, B, rfl, rfl, hI⟩ i hi
    have hr : (i = 2 ∧ b2 = false) ∨ (i = 5 ∧ b5 = false ∧ b2 = true) ∨ (i = 6 ∧ b6 = false) ∨ (i = 9 ∧ b9 = false ∧ b6 = true ∧ b5 = true) ∨ (i = 10 ∧ b10 = false ∧ b5 = true ∧ b9 = true) ∨ (i = 11 ∧ b11 = false) ∨ (i = 12 ∧ b12 = false ∧ b10 = true ∧ b11 = true) := by
      clear hI
      revert i b2 b5 b6 b9 b10 b11 b12
      set_option synthInstance.maxHeartbeats 1000000 in
      set_option synthInstance.maxSize 1000000 in
      decide +kernel
    clear hi
    rcases hr with ⟨rfl, rfl⟩ | ⟨rfl, rfl, rfl⟩ | ⟨rfl, rfl⟩ | ⟨rfl, rfl, rfl, rfl⟩ | ⟨rfl, rfl, rfl, rfl⟩ | ⟨rfl, rfl⟩ | ⟨rfl, rfl, rfl, rfl⟩
    · have HQ := Lib.hid hI.step2
      clear hI
      refine wpOp_walk rfl fun K' HK => ?_
      go_wp2_with fail
      exact HK.out _ _ ⟨HS.out _ HQ.out.below, _, _, _, _, _, _, _, _, _, _, _, _, _, _, _, _, by kernel_rfl, rfl, HQ.out⟩
    · obtain ⟨rfl, hn, how⟩ := hI.s1 rfl rfl
      have hsl := (HT.out.es.below (Below.refl _ _).drew).below hI.below
      have hle := hI.le
      have HQ := Lib.hid hI
      clear hI
      refine wpOp_walk rfl fun K' HK => ?_
      refine wpList_app_cel (f := Value.string) W (by rfl) _ _ _ (by rfl) _ i0 (.string ⟨#[]⟩) 16 Try.underlying22 HI.out.1 HI.out.2.1 HI.out.2.2.1 HI.out.2.2.2 rfl (by decide) (fun _ => rfl) W0.heap.size _ [] (by rfl) how hle p.ea p.ec t.elems (by rfl) HT.out.en hsl (by simpa using H1.out) ?_
      intro v w' k1 k2 k3 k4
      have HQ := Lib.hid (HQ.out.step5 k1 k2 k3 (k4 hn))
      exact HK.out _ _ ⟨HS.out _ HQ.out.below, _, _, _, _, _, _, _, _, _, _, _, _, _, _, _, _, by kernel_rfl, rfl, HQ.out⟩
    · have HQ := Lib.hid hI.step6
      clear hI
      refine wpOp_walk rfl fun K' HK => ?_
      go_wp2_with fail
      exact HK.out _ _ ⟨HS.out _ HQ.out.below, _, _, _, _, _, _, _, _, _, _, _, _, _, _, _, _, by kernel_rfl, rfl, HQ.out⟩
    · obtain ⟨rfl, hn, how⟩ := hI.r1 rfl rfl
      have hsl := (HT.out.ws.below (Below.refl _ _).drew).below hI.below
      have hle := hI.le
      have HQ := Lib.hid hI
      clear hI
      refine wpOp_walk rfl fun K' HK => ?_
      refine wpList_app_cel (f := Value.bool) W (by rfl) _ _ _ (by rfl) _ j0 (.bool false) 1 Try.underlying24 HJ.out.1 HJ.out.2.1 HJ.out.2.2.1 HJ.out.2.2.2 rfl (by decide) (fun _ => rfl) W0.heap.size _ [] (by rfl) how hle p.wa p.wc t.wrong (by rfl) HT.out.wn hsl (by simpa using H3.out) ?_
      intro v w' k1 k2 k3 k4
      have HQ := Lib.hid (HQ.out.step9 rfl k1 k2 k3 (k4 hn))
      exact HK.out _ _ ⟨HS.out _ HQ.out.below, _, _, _, _, _, _, _, _, _, _, _, _, _, _, _, _, by kernel_rfl, rfl, HQ.out⟩
    · obtain ⟨rfl, _, so⟩ := hI.s2 rfl
      obtain ⟨rfl, _, ro⟩ := hI.r2 rfl
      obtain ⟨sa, sc, rfl⟩ := own_slice' so
      obtain ⟨ra, rc, rfl⟩ := own_slice' ro
      have HQ := Lib.hid (hI.step10 rfl rfl)
      clear hI so ro
      refine wpOp_walk rfl fun K' HK => ?_
      go_wp2_with fail
      exact HK.out _ _ ⟨HS.out _ HQ.out.below, _, _, _, _, _, _, _, _, _, _, _, _, _, _, _, _, by kernel_rfl, rfl, HQ.out⟩
    · have HQ := Lib.hid hI.step11
      clear hI
      refine wpOp_walk rfl fun K' HK => ?_
      go_wp2_with fail
      exact HK.out _ _ ⟨HS.out _ HQ.out.below, _, _, _, _, _, _, _, _, _, _, _, _, _, _, _, _, by kernel_rfl, rfl, HQ.out⟩
    · obtain ⟨rfl, hB1, hbx⟩ := hI.bx rfl
      obtain rfl := hI.k rfl
      obtain ⟨sa, sc, e1⟩ := own_slice' hI.str
      obtain ⟨ra, rc, e2⟩ := own_slice' hI.row
      have HQ := Lib.hid hI
      clear hI
      refine wpOp_walk rfl fun K' HK => ?_
      refine wpList_store_row W (by rfl) 26 _ _ (by rfl) (by rfl) t0 HTI.out.1 B tb0 #[.string t.name, s, .slice none 0 0, r] 26 (by rfl) (by rfl) hbx (by rfl) HTI.out.2.2 ?_ ?_
      · intro v hv
        simp only [List.mem_cons, List.not_mem_nil, or_false] at hv
        rcases hv with rfl | rfl | rfl | rfl
        · rfl
        · rw [e1]; rfl
        · rfl
        · rw [e2]; rfl
      intro w' k1 k2
      have HQ := Lib.hid (HQ.out.step12 k1 k2)
      exact HK.out _ _ ⟨HS.out _ HQ.out.below, _, _, _, _, _, _, _, _, _, _, _, _, _, _, _, _, by kernel_rfl, rfl, HQ.out⟩
  case stop =>
    rintro L a W ⟨b2, b5, b6, b9, b10, b11, b12, x3, x7, x10, x11, x14, x15, s, r, B, rfl, rfl, hI⟩ hi
    have hr : b2 = true ∧ b5 = true ∧ b6 = true ∧ b9 = true ∧ b10 = true ∧ b11 = true ∧ b12 = true := by
      clear hI
      revert b2 b5 b6 b9 b10 b11 b12
      set_option synthInstance.maxHeartbeats 1000000 in
      set_option synthInstance.maxSize 1000000 in
      decide +kernel
    obtain ⟨rfl, rfl, rfl, rfl, rfl, rfl, rfl⟩ := hr
    clear hi
    obtain ⟨rfl, hB1, hbx⟩ := hI.bx rfl
    obtain ⟨rfl, _, _⟩ := hI.s2 rfl
    obtain ⟨rfl, _, _⟩ := hI.r2 rfl
    have HL := Lib.hid hI.done
    clear hI hB1 hbx
    go_wp2_with fail
    go_loopw [4] (fun c wr => ∃ (k : Nat) (v : Value), k ≤ t.above.length ∧ c = .int .i64 k ∧ Hid (CpL t W0.drew W0.heap.size x10 x14 B (t.above.take k) v v wr)) (fun c _ => t.above.length - (intOf c).toNat)
    case atStart => exact ⟨0, _, by omega, rfl, by rw [List.take_zero]; exact HL⟩
    case round =>
      clear HL
      rename World => wr
      obtain ⟨k, v, hk, rfl, HK⟩ := hrel
      have hbx := (HX.out.below (Below.refl _ _).drew).below HK.out.below
      have x2 := hbx.c2
      have H2' := H2.out
      clear hbx
      by_cases hkl : k < t.above.length
      · have n1 : (k : Int) < (t.above.length : Int) := by omega
        have n2 : (0 : Int) ≤ (k : Int) := by omega
        obtain ⟨ab, ao, epa, hra⟩ := HT.out.as_.at hkl
        obtain ⟨ra, rc, hra1, hra2, hra3, hra4⟩ := hra.at_ k hkl
        have hQS : ∀ W : World, Below W0.heap.size W0.drew W → W.cell? ⟨w.heap.size, 2, none⟩ = some (.slice (some ⟨ab, ao, none⟩) t.above.length p.ac) ∧ W.cell? ⟨ab, ao + k, none⟩ = some (.slice ra t.above[k].length rc) := fun W hW => by
          have hb := (HX.out.below (Below.refl _ _).drew).below hW
          exact ⟨by rw [← epa]; exact hb.c2, cell_below (cell_below hra1 (Below.refl _ _).drew) hW⟩
        have HQS := Lib.hid hQS
        rw [epa] at x2
        clear epa
        have HR2 := Lib.hid hra2
        have HR4 := Lib.hid hra4
        have HL4 := Lib.hid (H4.out _ (List.getElem_mem hkl))
        clear hra hra1 hra2 hra3 hra4 hQS
        go_wp2_with fail
        have HD := Lib.hid (HK.out.new (Below.refl wr.heap.size wr).drew)
        have hQ0 := HQS.out _ HD.out.below
        refine wp_region_held (S := fun W => W.cell? ⟨w.heap.size, 2, none⟩ = some (.slice (some ⟨ab, ao, none⟩) t.above.length p.ac) ∧ W.cell? ⟨ab, ao + k, none⟩ = some (.slice ra t.above[k].length rc)) hmx ?_
        change wpAnyH _ _ _ _ _ _ _ _ wr.drew
        refine wpAnyH_take (i := 0) (v := .pointer (some ⟨B, 2, none⟩)) rfl (by kernel_rfl) (by kernel_rfl) (by kernel_rfl) (fun _ _ _ h => h) (Or.inl ⟨by rfl, ?_⟩) hQ0 ?_
        · intro W' hSw
          obtain ⟨s0, s1⟩ := hSw
          go_simp
        dsimp only [Act.put, List.setIfInBounds_toArray, List.set_cons_zero, List.set_cons_succ]
        refine wpAnyH_take (i := 3) (v := .pointer (some ⟨w.heap.size, 2, none⟩)) rfl (by kernel_rfl) (by kernel_rfl) (by kernel_rfl) (fun _ _ _ h => h) (Or.inl ⟨by rfl, ?_⟩) hQ0 ?_
        · intro W' hSw
          obtain ⟨s0, s1⟩ := hSw
          go_simp
        dsimp only [Act.put, List.setIfInBounds_toArray, List.set_cons_zero, List.set_cons_succ]
        refine wpAnyH_take (i := 4) (v := .slice (some ⟨ab, ao, none⟩) t.above.length p.ac) rfl (by kernel_rfl) (by kernel_rfl) (by kernel_rfl) (fun _ _ _ h => h) (Or.inl ⟨by rfl, ?_⟩) hQ0 ?_
        · intro W' hSw
          obtain ⟨s0, s1⟩ := hSw
          go_simp
        dsimp only [Act.put, List.setIfInBounds_toArray, List.set_cons_zero, List.set_cons_succ]
        refine wpAnyH_take (i := 5) (v := .int .i64 k) rfl (by kernel_rfl) (by kernel_rfl) (by kernel_rfl) (fun _ _ _ h => h) (Or.inl ⟨by rfl, ?_⟩) hQ0 ?_
        · intro W' hSw
          obtain ⟨s0, s1⟩ := hSw
          go_simp
        dsimp only [Act.put, List.setIfInBounds_toArray, List.set_cons_zero, List.set_cons_succ]
        refine wpAnyH_take (i := 6) (v := .pointer (some ⟨ab, ao + k, none⟩)) rfl (by kernel_rfl) (by kernel_rfl) (by kernel_rfl) (fun _ _ _ h => h) (Or.inl ⟨by rfl, ?_⟩) hQ0 ?_
        · intro W' hSw
          obtain ⟨s0, s1⟩ := hSw
          go_simp
        dsimp only [Act.put, List.setIfInBounds_toArray, List.set_cons_zero, List.set_cons_succ]
        refine wpAnyH_take (i := 7) (v := .slice ra t.above[k].length rc) rfl (by kernel_rfl) (by kernel_rfl) (by kernel_rfl) (fun _ _ _ h => h) (Or.inl ⟨by rfl, ?_⟩) hQ0 ?_
        · intro W' hSw
          obtain ⟨s0, s1⟩ := hSw
          go_simp
        dsimp only [Act.put, List.setIfInBounds_toArray, List.set_cons_zero, List.set_cons_succ]
        refine wpAnyH_inv (fun L a W => ∃ c1 c2 c8 c9 c10 c11 c12 y24 y25 y31 y32 y33 y34, L = #[true, c1, c2, true, true, true, true, true, c8, c9, c10, c11, c12] ∧ a = ⟨#[tbV t p, .pointer (some ⟨w.heap.size, 0, none⟩), .pointer (some ⟨w.heap.size + 1, 0, none⟩), .pointer (some ⟨B, 0, none⟩), .int .i64 k, .pointer (some ⟨w.heap.size, 0, none⟩), .string t.name, x7, .pointer (some ⟨w.heap.size, 1, none⟩), .slice p.ea t.elems.length p.ec, x10, x11, .pointer (some ⟨w.heap.size, 3, none⟩), .slice p.wa t.wrong.length p.wc, x14, x15, .int .i64 k, .pointer (some ⟨w.heap.size, 2, none⟩), .slice (some ⟨ab, ao, none⟩) t.above.length p.ac, .int .i64 t.above.length, .bool true, u21, u22, .pointer (some ⟨B, 2, none⟩), y24, y25, .pointer (some ⟨w.heap.size, 2, none⟩), .slice (some ⟨ab, ao, none⟩) t.above.length p.ac, .int .i64 k, .pointer (some ⟨ab, ao + k, none⟩), .slice ra t.above[k].length rc, y31, y32, y33, y34, undef], []⟩ ∧ CpJ t W0.drew W0.heap.size x10 x14 B (t.above.take k) v t.above[k] wr.drew c1 c2 c8 c9 c10 c11 c12 y24 y25 y31 y32 y33 y34 W) ?step ?stop _ _ _ _ (by decide) ?start
        case start => exact ⟨false, false, false, false, false, false, false, u24, u25, u31, u32, u33, u34, by kernel_rfl, by rfl, CpJ.start HD.out⟩
        case step =>
          clear hQ0 x2
          rintro L a W ⟨c1, c2, c8, c9, c10, c11, c12, y24, y25, y31, y32, y33, y34, rfl, rfl, hI⟩ i hi
          have hr : (i = 1 ∧ c1 = false) ∨ (i = 2 ∧ c2 = false) ∨ (i = 8 ∧ c8 = false ∧ c2 = true) ∨ (i = 9 ∧ c9 = false ∧ c8 = true) ∨ (i = 10 ∧ c10 = false ∧ c9 = true ∧ c1 = true) ∨ (i = 11 ∧ c11 = false ∧ c10 = true) ∨ (i = 12 ∧ c12 = false ∧ c11 = true ∧ c10 = true) := by
            clear hI
            revert i c1 c2 c8 c9 c10 c11 c12
            set_option synthInstance.maxHeartbeats 1000000 in
            set_option synthInstance.maxSize 1000000 in
            decide +kernel
          clear hi
          rcases hr with ⟨rfl, rfl⟩ | ⟨rfl, rfl⟩ | ⟨rfl, rfl, rfl⟩ | ⟨rfl, rfl, rfl⟩ | ⟨rfl, rfl, rfl, rfl⟩ | ⟨rfl, rfl, rfl⟩ | ⟨rfl, rfl, rfl, rfl⟩
          · have hc := hI.cell
            have HQ := Lib.hid hI.step1
            clear hI
            refine wpOp_walk rfl fun K' HZ => ?_
            go_wp2_with fail
            exact HZ.out _ _ ⟨HQS.out _ HQ.out.below, _, _, _, _, _, _, _, _, _, _, _, _, _, by kernel_rfl, rfl, HQ.out⟩
          · have HQ := Lib.hid hI.step2
            clear hI
            refine wpOp_walk rfl fun K' HZ => ?_
            go_wp2_with fail
            exact HZ.out _ _ ⟨HQS.out _ HQ.out.below, _, _, _, _, _, _, _, _, _, _, _, _, _, by kernel_rfl, rfl, HQ.out⟩
          · obtain ⟨rfl, rfl, rfl, rfl⟩ := hI.no9
            obtain ⟨hn, how⟩ := hI.k2 rfl rfl
            have hle := (hI.bel rfl).size
            have hsl := (((HR4.out.below (Below.refl _ _).drew).below HD.out.below)).below (hI.bel rfl)
            have HQ := Lib.hid hI
            clear hI
            refine wpOp_walk rfl fun K' HZ => ?_
            refine wpList_app_cel (f := Value.int .i64) W (by rfl) _ _ _ (by rfl) _ q0 (.int .i64 0) 8 Try.underlying39 HN0.out.1 HN0.out.2.1 HN0.out.2.2.1 HN0.out.2.2.2 rfl (by decide) (fun _ => rfl) wr.drew.heap.size _ [] (by rfl) how hle ra rc t.above[k] (by rfl) HR2.out hsl (by simpa using HL4.out) ?_
            intro v' w' k1 k2 k3 k4
            have HQ := Lib.hid (HQ.out.step8 k1 k2)
            exact HZ.out _ _ ⟨HQS.out _ HQ.out.below, _, _, _, _, _, _, _, _, _, _, _, _, _, by kernel_rfl, rfl, HQ.out⟩
          · have HQ := Lib.hid hI.step9
            obtain ⟨rfl, rfl, rfl⟩ := hI.no10'
            obtain ⟨za, zc, rfl⟩ := own_slice' (hI.k8 rfl rfl)
            clear hI
            refine wpOp_walk rfl fun K' HZ => ?_
            go_wp2_with fail
            exact HZ.out _ _ ⟨HQS.out _ HQ.out.below, _, _, _, _, _, _, _, _, _, _, _, _, _, by kernel_rfl, rfl, HQ.out⟩
          · obtain ⟨rfl, hnst, hle, g, ga, gc, rfl, q1, q2, q3, q4⟩ := hI.for10
            obtain ⟨va, vc, ev⟩ := hnst.slice
            have HQ := Lib.hid hI
            clear hI
            refine wpOp_walk rfl fun K' HZ => ?_
            refine wpList_append_nestQ (f := Value.int .i64) W (by rfl) _ _ _ (by rfl) _ r0 Try.underlying23 HN1.out.1 HN1.out.2.1 HN1.out.2.2.1 HN1.out.2.2.2 W0.heap.size _ (t.above.take k) (by rfl) hnst hle ⟨g, 0, none⟩ 1 ga t.above[k] gc (by rfl) q1 (by rw [List.length_take]; have := H2.out; omega) q2 q3 q4 ?_
            intro g' c' w' k1 k2 k3
            have HQ := Lib.hid (HQ.out.step10 k1 k2 k3)
            exact HZ.out _ _ ⟨HQS.out _ HQ.out.below, _, _, _, _, _, _, _, _, _, _, _, _, _, by kernel_rfl, rfl, HQ.out⟩
          · have HQ := Lib.hid hI.step11
            clear hI
            refine wpOp_walk rfl fun K' HZ => ?_
            go_wp2_with fail
            exact HZ.out _ _ ⟨HQS.out _ HQ.out.below, _, _, _, _, _, _, _, _, _, _, _, _, _, by kernel_rfl, rfl, HQ.out⟩
          · obtain ⟨rfl, q1, q2, za, zn, zc, rfl⟩ := hI.for12
            have HQ := Lib.hid hI.step12
            clear hI
            refine wpOp_walk rfl fun K' HZ => ?_
            go_wp2_with fail
            exact HZ.out _ _ ⟨HQS.out _ HQ.out.below, _, _, _, _, _, _, _, _, _, _, _, _, _, by kernel_rfl, rfl, HQ.out⟩
        case stop =>
          rintro L a W ⟨c1, c2, c8, c9, c10, c11, c12, y24, y25, y31, y32, y33, y34, rfl, rfl, hI⟩ hi
          have hr : c1 = true ∧ c2 = true ∧ c8 = true ∧ c9 = true ∧ c10 = true ∧ c11 = true ∧ c12 = true := by
            clear hI
            revert c1 c2 c8 c9 c10 c11 c12
            set_option synthInstance.maxHeartbeats 1000000 in
            set_option synthInstance.maxSize 1000000 in
            decide +kernel
          obtain ⟨rfl, rfl, rfl, rfl, rfl, rfl, rfl⟩ := hr
          have HE := Lib.hid (hI.k12 rfl)
          clear hi hI hQ0 x2
          go_wp2_with fail
          go_roundw
          case rel => exact ⟨k + 1, _, by omega, by go_num, Lib.hid (by rw [List.take_succ_eq_append_getElem hkl]; exact HE.out)⟩
          case measure => simp [intOf]; omega
      · obtain rfl : k = t.above.length := by omega
        have m1 : decide ((t.above.length : Int) < (t.above.length : Int)) = false := decide_eq_false (by omega)
        have hKK := HK.out
        rw [List.take_length] at hKK
        have hN := hKK.nz
        have hsz := HSZ.out
        obtain ⟨p', hb', ht'⟩ := hKK.table
        have hbl := hKK.below
        have ho : wr.heap[w.heap.size + 1]? = some (.cells tb0 26 (0, 0)) := by
          rw [hbl.block _ (by have := HSZ.out; omega)]
          exact HY.out
        have hne : B ≠ w.heap.size + 1 := by have := hKK.hB; have := HSZ.out; omega
        have HB' := Lib.hid hb'
        have HT' := Lib.hid ht'
        have HBL := Lib.hid hbl
        have HO := Lib.hid ho
        clear hb' ht' hbl ho hKK HK hN hsz
        go_wp2_with (first
          | (refine wpList_load_row _ rfl 26 _ rfl t0 HTI.out.1 (by kernel_rfl) B (tbA t p') 26 rfl HB'.out HTI.out.2.2 ?_)
          | (refine wpList_store_row _ rfl 26 _ _ rfl rfl t0 HTI.out.1 (w.heap.size + 1) tb0 (tbA t p') 26 rfl rfl HO.out rfl HTI.out.2.2 (by intro v hv; simp only [List.mem_cons, List.not_mem_nil, or_false] at hv; rcases hv with rfl | rfl | rfl | rfl <;> rfl) ?_; intro w3 h3 hg3; have H3 := Lib.hid h3; clear h3))
        obtain ⟨q0, q1, q2, q3⟩ := tbBox (t := t) (p := p') H3.out
        have hsz := HSZ.out
        have hBf : Below w.heap.size w w3 := (below2 HBB.out ((Below.refl _ _).drew.trans HBL.out)).grown hg3 (by have := HBL.out.size; simp at this; omega) (fun k e => by cases e; omega)
        exact bodyPost_ret (v := tbV t p') (by simp [results, Try.results9, go_sem, q0, q1, q2, q3]) rfl ⟨p', rfl, HT'.out w3 hg3.size (fun g h1 h2 => hg3.block g h2 (fun e => by injection e with e; omega)), hBf⟩
end Go.Proofs.Ytlpindnbkgaplaa

namespace Go.Proofs.Ytlpindnbkgaplaa
open Go.RowKit

namespace M
theorem filter_more (p : Nat → Bool) (n : Nat) (h : ∀ j, p j = true → j < n) : ∀ k, n ≤ k → (List.range k).filter p = (List.range n).filter p := by
  intro k hk
  obtain ⟨d, rfl⟩ := Nat.exists_eq_add_of_le hk
  clear hk
  induction d with
  | zero => rfl
  | succ d ih =>
    rw [show n + (d + 1) = (n + d) + 1 from by omega, List.range_succ, List.filter_append, ih]
    have hn : p (n + d) = false := by
      cases hp : p (n + d) with
      | false => rfl
      | true => have := h _ hp; omega
    simp [hn]
theorem up_list {t : Tb} (hf : form t) {a : Nat} (ha : a < t.elems.length) : listN (know t a) 12 = nats (bnd t a a) := by
  unfold listN nats bnd
  rw [filter_more (know t a).testBit t.elems.length (fun j hj => leB_lt hf ha hj) 12 hf.twelve]
  congr 2
  funext c
  show leB t a c = _
  rw [Bool.and_self]
end M

set_option maxHeartbeats 4000000 in
set_option maxRecDepth 100000 in
theorem refUp_any (t : M.Tb) (p : Tp) (a : Nat) (w : World) (ht : TbIn w t p) (hf : M.form t) (ha : a < t.elems.length) : Calls Try.prog 45 #[tbV t p, .int .i64 a] w (IntsPost (nats (M.bnd t a a)) w) := by
  have HC := Lib.hid (rel_any t p (w.alloc (.cells (tbA t p) 26)) (ht.below (below1 _ _)) hf)
  obtain ⟨c0, c1, c2, c3⟩ := tbBox (t := t) (p := p) (box_new w (tbA t p) 26)
  clear ht
  go_enter Try.func45, Try.ntmps45
  go_wp2_with fail
  refine HC.out.mono ?_
  rintro e w1 ⟨g, c, rfl, hc, hr, hB1⟩
  have HB := Lib.hid (below2 (below1 w (.cells (tbA t p) 26)) hB1)
  clear c0 c1 c2 c3 hB1 HC
  go_wp2_with fail
  refine (bounds_any t g c a a w1 hr hf.twelve ha ha).mono ?_
  rintro e w2 ⟨la, lc, rfl, h1, h2, h3, hB2⟩
  have hB := below2 HB.out hB2
  have H3 := Lib.hid h3
  clear h3 hB2
  go_wp2_with fail
  go_ret
  exact ⟨la, lc, by rw [nats_len]; rfl, h1, h2, H3.out, hB⟩

set_option maxHeartbeats 4000000 in
set_option maxRecDepth 100000 in
theorem refReach_any (t : M.Tb) (p : Tp) (a : Int) (w : World) (hs : t.name.size ≤ maxLen) (hes : ∀ s, s ∈ t.elems → s.size ≤ maxLen) (hal : ∀ l, l ∈ t.above → l.length ≤ 1000000) (hel : t.elems.length ≤ 1000000) (ht : TbIn w t p) :
    Calls Try.prog 17 #[tbV t p, .int .i64 a] w (ReachPost t a w) := by
  have HX := Lib.hid (tbBox (t := t) (p := p) (box_new w (tbA t p) 26))
  have HT := Lib.hid ht
  have HC := Lib.hid (refCheck_any t p (w.alloc (.cells (tbA t p) 26)) hs hes hal (ht.below (below1 _ _)))
  obtain ⟨c0, c1, c2, c3⟩ := HX.out
  clear ht hs hes hal
  go_enter Try.func17, Try.ntmps17
  go_wp2_with fail
  refine HC.out.mono ?_
  rintro e w1 ⟨⟨hf, rfl⟩ | ⟨hf, rfl⟩, hB1⟩
  · have HF := Lib.hid hf
    have HX := Lib.hid (HX.out.below hB1)
    have HB1 := Lib.hid (below2 (below1 w (.cells (tbA t p) 26)) hB1)
    clear c0 c1 c2 c3 hB1 HC hf
    obtain ⟨c0, c1, c2, c3⟩ := HX.out
    go_wp2_with fail
    refine (isElem_any t p a w1 hel).mono ?_
    rintro e w2 ⟨rfl, hB2⟩
    have HX := Lib.hid (HX.out.below hB2)
    have HB2 := Lib.hid (below2 HB1.out hB2)
    clear c0 c1 c2 c3 hB2 HB1
    obtain ⟨c0, c1, c2, c3⟩ := HX.out
    cases hin : M.inB t.elems.length a with
    | false =>
      have HIN := Lib.hid hin
      clear hin
      go_wp2_with fail
      go_ret2
      exact reach_2 HF.out HIN.out HB2.out
    | true =>
      have HIN := Lib.hid hin
      unfold M.inB at hin
      simp only [Bool.and_eq_true, decide_eq_true_eq] at hin
      obtain ⟨k, rfl⟩ : ∃ k : Nat, a = k := ⟨a.toNat, by omega⟩
      have hk : k < t.elems.length := by omega
      clear hin
      go_wp2_with fail
      refine (refUp_any t p k w2 (HT.out.below HB2.out) HF.out hk).mono ?_
      rintro e w3 ⟨la, lc, rfl, h1, h2, h3, hB3⟩
      have hB := below2 HB2.out hB3
      have H3 := Lib.hid h3
      clear h3 hB3
      go_wp2_with fail
      go_ret2
      have hu := M.up_list HF.out hk
      have h3 := H3.out
      show ReachPost t (k : Int) w (.returned (.tuple #[.slice la (M.bnd t k k).length lc, .int .i64 0])) w3
      have hlen : (M.bnd t k k).length = (M.listN (M.know t k) 12).length := by rw [hu, nats_len]
      rw [hlen]
      rw [← hu] at h3
      exact reach_3 (a := (k : Int)) HF.out HIN.out (by rw [Int.toNat_natCast]; exact h3) hB
  · have HF := Lib.hid hf
    have hB := below2 (below1 w (.cells (tbA t p) 26)) hB1
    clear hf hB1 c0 c1 c2 c3
    go_wp2_with fail
    go_ret2
    exact reach_1 HF.out hB

set_option maxHeartbeats 4000000 in
set_option maxRecDepth 100000 in
theorem refBelow_any (t : M.Tb) (p : Tp) (a b : Int) (w : World) (hs : t.name.size ≤ maxLen) (hes : ∀ s, s ∈ t.elems → s.size ≤ maxLen) (hal : ∀ l, l ∈ t.above → l.length ≤ 1000000) (hel : t.elems.length ≤ 1000000) (ht : TbIn w t p) :
    Calls Try.prog 18 #[tbV t p, .int .i64 a, .int .i64 b] w (BelowPost t a b w) := by
  have HX := Lib.hid (tbBox (t := t) (p := p) (box_new w (tbA t p) 26))
  have HT := Lib.hid ht
  have HC := Lib.hid (refCheck_any t p (w.alloc (.cells (tbA t p) 26)) hs hes hal (ht.below (below1 _ _)))
  obtain ⟨c0, c1, c2, c3⟩ := HX.out
  clear ht hs hes hal
  go_enter Try.func18, Try.ntmps18
  go_wp2_with fail
  refine HC.out.mono ?_
  rintro e w1 ⟨⟨hf, rfl⟩ | ⟨hf, rfl⟩, hB1⟩
  · have HF := Lib.hid hf
    have HX := Lib.hid (HX.out.below hB1)
    have HB1 := Lib.hid (below2 (below1 w (.cells (tbA t p) 26)) hB1)
    clear c0 c1 c2 c3 hB1 HC hf
    obtain ⟨c0, c1, c2, c3⟩ := HX.out
    go_wp2_with fail
    refine (isElem_any t p a w1 hel).mono ?_
    rintro e w2 ⟨rfl, hB2⟩
    have HX := Lib.hid (HX.out.below hB2)
    have HB2 := Lib.hid (below2 HB1.out hB2)
    clear c0 c1 c2 c3 hB2 HB1
    obtain ⟨c0, c1, c2, c3⟩ := HX.out
    cases hin : M.inB t.elems.length a with
    | false =>
      have HIN := Lib.hid hin
      clear hin
      go_wp2_with fail
      go_ret2
      exact bel_2 HF.out (by rw [HIN.out]; rfl) HB2.out
    | true =>
      have HIN := Lib.hid hin
      unfold M.inB at hin
      simp only [Bool.and_eq_true, decide_eq_true_eq] at hin
      obtain ⟨k, rfl⟩ : ∃ k : Nat, a = k := ⟨a.toNat, by omega⟩
      have hk : k < t.elems.length := by omega
      clear hin
      go_wp2_with fail
      refine (isElem_any t p b w2 hel).mono ?_
      rintro e w3 ⟨rfl, hB3⟩
      have HX := Lib.hid (HX.out.below hB3)
      have HB3 := Lib.hid (below2 HB2.out hB3)
      clear c0 c1 c2 c3 hB3 HB2
      obtain ⟨c0, c1, c2, c3⟩ := HX.out
      cases hib : M.inB t.elems.length b with
      | false =>
        have HIB := Lib.hid hib
        clear hib
        go_wp2_with fail
        go_ret2
        exact bel_2 HF.out (by rw [HIB.out, Bool.and_false]) HB3.out
      | true =>
        have HIB := Lib.hid hib
        unfold M.inB at hib
        simp only [Bool.and_eq_true, decide_eq_true_eq] at hib
        obtain ⟨j, rfl⟩ : ∃ j : Nat, b = j := ⟨b.toNat, by omega⟩
        have hj : j < t.elems.length := by omega
        clear hib
        go_wp2_with fail
        refine (isBelow_any t p k j w3 (HT.out.below HB3.out) HF.out hk hj).mono ?_
        rintro e w4 ⟨rfl, hB4⟩
        have hB := below2 HB3.out hB4
        clear hB4
        go_wp2_with fail
        go_ret2
        exact bel_3 (a := (k : Int)) (b := (j : Int)) HF.out (by rw [HIN.out, HIB.out]; rfl) hB
  · have HF := Lib.hid hf
    have hB := below2 (below1 w (.cells (tbA t p) 26)) hB1
    clear hf hB1 c0 c1 c2 c3
    go_wp2_with fail
    go_ret2
    exact bel_1 HF.out hB
end Go.Proofs.Ytlpindnbkgaplaa

namespace Go.Proofs.Ytlpindnbkgaplaa
set_option maxRecDepth 100000
open Go.RowKit Go.WideMaps Go.Maps
open Go.ChangeShapes Go.WideShapes Go.ChangeAt Go.WideElems Go.ChangeMaps Go.Deep

theorem own : ownKnob Try.prog.godebug = none := by kernel_rfl
section
variable {H : Type} {enc : TypeId × Value → H}
/-- A list of one-cell elements that comes in. -/
theorem cel_open {α : Type} {f : α → Value} [Inhabited α] {sT eT : TypeId} {W : World} {base : Nat} {sp : Nat → Bool} {held : Bool} {fuel : Nat} {v : Value} {x : DataW H × List MemPlace} (hu : Try.prog.underlying sT = some (.slice eT)) (hc : Try.prog.cellsOf eT = 1)
    (hone : ∀ {n : Nat} {c : Value} {y : DataW H × List MemPlace}, DataW.trod enc Try.prog W base sp held n eT [c] = some y → ∃ z : α, c = f z)
    (h : DataW.trod enc Try.prog W base sp held fuel sT [v] = some x) :
    ∃ (a : Option Addr) (c : Nat) (l : List α), v = .slice a l.length c ∧ (a = none → c = 0) ∧ l.length ≤ c ∧ CelSl f W a l := by
  rcases open_slice1 hu hc h with ⟨h0, _⟩ | ⟨a, len, cap, m, n, V, D, Pl, hcs, hb, hl, hm, hmm, hx, hi⟩
  · cases h0
    exact ⟨none, 0, [], rfl, fun _ => rfl, Nat.le_refl _, Or.inl rfl⟩
  · cases hcs
    have hlm : len ≤ m := by rw [hmm]; split <;> omega
    obtain ⟨g, hg⟩ : ∃ g : Nat → α, ∀ i, i < len → W.cell? (a.add i) = some (f (g i)) := by
      have hel : ∀ i, i < len → ∃ z : α, W.cell? (a.add i) = some (f z) := fun i hil => by
        obtain ⟨h1, h2⟩ := hi i (by omega)
        obtain ⟨z, e⟩ := hone h2
        exact ⟨z, by rw [h1, e]⟩
      refine ⟨fun i => if h : i < len then (hel i h).choose else default, fun i hi => ?_⟩
      have := (hel i hi).choose_spec
      simp only [dif_pos hi]
      exact this
    rcases Nat.eq_zero_or_pos len with h0 | h0
    · subst h0
      exact ⟨some a, cap, [], rfl, (fun h => by cases h), hl, Or.inl rfl⟩
    · have g0 := hg 0 h0
      obtain ⟨b, off, spot⟩ := a
      have hspot : spot = none := by simpa [Addr.add] using World.cell?_spot g0
      subst hspot
      have hblt : b < W.heap.size := World.block_lt_of_cell? W _ g0
      have hadd : ∀ i, (⟨b, off, none⟩ : Addr).add i = ⟨b, off + i, none⟩ := fun i => by simp [Addr.add]
      refine ⟨some ⟨b, off, none⟩, cap, (List.range len).map g, by rw [List.length_map, List.length_range], (fun h => by cases h), by rw [List.length_map, List.length_range]; exact hl, Or.inr ⟨b, off, rfl, hblt, fun i hi => ?_⟩⟩
      rw [List.length_map, List.length_range] at hi
      rw [List.getElem_map, List.getElem_range, ← hadd]
      exact hg i hi
theorem strs_open {W : World} {base : Nat} {sp : Nat → Bool} {held : Bool} {fuel : Nat} {v : Value} {x : DataW H × List MemPlace} (h : DataW.trod enc Try.prog W base sp held fuel 22 [v] = some x) :
    ∃ (a : Option Addr) (c : Nat) (l : List ByteArray), v = .slice a l.length c ∧ (a = none → c = 0) ∧ l.length ≤ c ∧ StrSl W a l :=
  cel_open (f := Value.string) Try.underlying22 (by kernel_rfl) (fun h => by
    obtain ⟨t, e, _⟩ := DataW.trod_string Try.underlying9 h
    cases e; exact ⟨t, rfl⟩) h
theorem bools_open {W : World} {base : Nat} {sp : Nat → Bool} {held : Bool} {fuel : Nat} {v : Value} {x : DataW H × List MemPlace} (h : DataW.trod enc Try.prog W base sp held fuel 24 [v] = some x) :
    ∃ (a : Option Addr) (c : Nat) (l : List Bool), v = .slice a l.length c ∧ (a = none → c = 0) ∧ l.length ≤ c ∧ BoolSl W a l :=
  cel_open (f := Value.bool) Try.underlying24 (by kernel_rfl) (fun h => by
    obtain ⟨t, e, _⟩ := DataW.trod_bool Try.underlying4 h
    cases e; exact ⟨t, rfl⟩) h
theorem ints_open {W : World} {base : Nat} {sp : Nat → Bool} {held : Bool} {fuel : Nat} {v : Value} {x : DataW H × List MemPlace} (h : DataW.trod enc Try.prog W base sp held fuel 39 [v] = some x) :
    ∃ (a : Option Addr) (c : Nat) (l : List Int), v = .slice a l.length c ∧ (a = none → c = 0) ∧ l.length ≤ c ∧ IntSl W a l :=
  cel_open (f := Value.int .i64) Try.underlying39 (by kernel_rfl) (fun h => by
    obtain ⟨t, e, _⟩ := DataW.trod_int Try.underlying3 h
    cases e; exact ⟨t, rfl⟩) h
/-- Lists of numbers that come in. -/
theorem rows_open {W : World} {base : Nat} {sp : Nat → Bool} {held : Bool} {fuel : Nat} {v : Value} {x : DataW H × List MemPlace} (h : DataW.trod enc Try.prog W base sp held fuel 23 [v] = some x) :
    ∃ (a : Option Addr) (c : Nat) (l : List (List Int)), v = .slice a l.length c ∧ (a = none → c = 0) ∧ l.length ≤ c ∧ RowSl W a l := by
  rcases open_slice1 Try.underlying23 (by kernel_rfl) h with ⟨h0, _⟩ | ⟨a, len, cap, m, n, V, D, Pl, hcs, hb, hl, hm, hmm, hx, hi⟩
  · cases h0
    exact ⟨none, 0, [], rfl, fun _ => rfl, Nat.le_refl _, Or.inl rfl⟩
  · cases hcs
    have hlm : len ≤ m := by rw [hmm]; split <;> omega
    obtain ⟨g, hg⟩ : ∃ g : Nat → List Int, ∀ i, i < len → ∃ ra rc, W.cell? (a.add i) = some (.slice ra (g i).length rc) ∧ (ra = none → rc = 0) ∧ (g i).length ≤ rc ∧ IntSl W ra (g i) := by
      have hel : ∀ i, i < len → ∃ z : List Int, ∃ ra rc, W.cell? (a.add i) = some (.slice ra z.length rc) ∧ (ra = none → rc = 0) ∧ z.length ≤ rc ∧ IntSl W ra z := fun i hil => by
        obtain ⟨h1, h2⟩ := hi i (by omega)
        obtain ⟨ra, rc, z, e, q⟩ := ints_open h2
        exact ⟨z, ra, rc, by rw [h1, e], q⟩
      refine ⟨fun i => if h : i < len then (hel i h).choose else [], fun i hi => ?_⟩
      have := (hel i hi).choose_spec
      simp only [dif_pos hi]
      exact this
    rcases Nat.eq_zero_or_pos len with h0 | h0
    · subst h0
      exact ⟨some a, cap, [], rfl, (fun h => by cases h), hl, Or.inl rfl⟩
    · obtain ⟨_, _, g0, _⟩ := hg 0 h0
      obtain ⟨b, off, spot⟩ := a
      have hspot : spot = none := by simpa [Addr.add] using World.cell?_spot g0
      subst hspot
      have hblt : b < W.heap.size := World.block_lt_of_cell? W _ g0
      have hadd : ∀ i, (⟨b, off, none⟩ : Addr).add i = ⟨b, off + i, none⟩ := fun i => by simp [Addr.add]
      refine ⟨some ⟨b, off, none⟩, cap, (List.range len).map g, by rw [List.length_map, List.length_range], (fun h => by cases h), by rw [List.length_map, List.length_range]; exact hl, Or.inr ⟨b, off, rfl, hblt, fun i hi => ?_⟩⟩
      rw [List.length_map, List.length_range] at hi
      rw [List.getElem_map, List.getElem_range, ← hadd]
      exact hg i hi
theorem tb_cells : Try.prog.cellsOf 26 = 4 := by kernel_rfl
/-- A table that comes in. -/
theorem tb_open {W : World} {base b0 : Nat} {sp : Nat → Bool} {held : Bool} {r : Reach} {v : Value} {d : DataW H} {p : List MemPlace} (hv : Value.okWide Try.prog W r b0 26 v) (h : DataW.Trod enc Try.prog W base sp held 26 v d p) :
    ∃ (t : M.Tb) (q : Tp), v = tbV t q ∧ TbIn W t q := by
  obtain ⟨v0, v1, v2, v3, y0, y1, y2, y3, n, rfl, rfl, rfl, h0, h1, h2, h3⟩ := Go.Joins.open_agg4 Try.underlying26 (by kernel_rfl) tb_cells hv h
  have h0' : DataW.trod enc Try.prog W base sp held n 9 [v0] = some y0 := h0
  have h1' : DataW.trod enc Try.prog W base sp held n 22 [v1] = some y1 := h1
  have h2' : DataW.trod enc Try.prog W base sp held n 23 [v2] = some y2 := h2
  have h3' : DataW.trod enc Try.prog W base sp held n 24 [v3] = some y3 := h3
  obtain ⟨s, e0, _⟩ := DataW.trod_string Try.underlying9 h0'
  cases e0
  obtain ⟨ea, ec, el, rfl, e1, e2, e3⟩ := strs_open h1'
  obtain ⟨aa, ac, al, rfl, a1, a2, a3⟩ := rows_open h2'
  obtain ⟨wa, wc, wl, rfl, w1, w2, w3⟩ := bools_open h3'
  exact ⟨⟨s, el, al, wl⟩, ⟨ea, ec, aa, ac, wa, wc⟩, rfl, ⟨e3, a3, w3, e1, a1, w1, e2, a2, w2⟩⟩
/-- A pair of elements that comes in. -/
theorem pr_open {W : World} {base b0 : Nat} {sp : Nat → Bool} {held : Bool} {r : Reach} {v : Value} {d : DataW H} {p : List MemPlace} (hv : Value.okWide Try.prog W r b0 38 v) (h : DataW.Trod enc Try.prog W base sp held 38 v d p) :
    ∃ (a b : Int), v = .agg #[.int .i64 a, .int .i64 b] := by
  obtain ⟨v0, v1, y0, y1, n, rfl, rfl, rfl, h0, h1⟩ := Go.Joins.open_agg2 Try.underlying38 (by kernel_rfl) (by kernel_rfl) hv h
  obtain ⟨a, e0, _⟩ := DataW.trod_int Try.underlying3 h0
  obtain ⟨b, e1, _⟩ := DataW.trod_int Try.underlying3 h1
  simp only [List.cons.injEq, and_true] at e0 e1
  exact ⟨a, b, by rw [e0, e1]⟩
end
end Go.Proofs.Ytlpindnbkgaplaa
