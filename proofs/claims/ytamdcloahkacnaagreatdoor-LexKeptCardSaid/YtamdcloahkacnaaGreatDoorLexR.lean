/- DERIVED. Contracts of layer 1: a text whose comments are blanked. -/
import Derived.Test.YtamdcloahkacnaaGreatDoorLexQ
namespace Go.Proofs.YtamdcloahkacnaaGreatDoor
open Go.RowKit Go.WideMaps Go.Maps Go.Shelf

namespace M
/-- A text with blanks in the place of a stretch. -/
def blankOut (l : List UInt8) (a b : Nat) : List UInt8 := l.mapIdx fun i c => if a ≤ i ∧ i < b then 32 else c
theorem blankOut_len (l : List UInt8) (a b : Nat) : (blankOut l a b).length = l.length := by simp [blankOut]
theorem blankOut_at (l : List UInt8) (a b i : Nat) (h : i < (blankOut l a b).length) : (blankOut l a b)[i] = if a ≤ i ∧ i < b then 32 else l[i]'(by rw [blankOut_len] at h; exact h) := by simp [blankOut]
def blankBy (l : List UInt8) (cs : List (Nat × Nat)) : List UInt8 := cs.foldl (fun l x => blankOut l x.1 x.2) l
theorem blankBy_len (cs : List (Nat × Nat)) : ∀ l : List UInt8, (blankBy l cs).length = l.length := by
  induction cs with
  | nil => intro l; rfl
  | cons x cs ih => intro l; show (blankBy (blankOut l x.1 x.2) cs).length = _; rw [ih, blankOut_len]
theorem blankBy_snoc (l : List UInt8) (cs : List (Nat × Nat)) (x : Nat × Nat) : blankBy l (cs ++ [x]) = blankOut (blankBy l cs) x.1 x.2 := by simp [blankBy]
def blank (l : List UInt8) : List UInt8 := blankBy l (comments l)
end M

/-- Bytes as they lie in a block, none of them frozen. -/
def ByRow (W : World) (b : Nat) (l : List UInt8) : Prop := ∀ i, (h : i < l.length) → W.cell? ⟨b, i, none⟩ = some (.int .u8 l[i].toNat) ∧ W.frozen? ⟨b, i, none⟩ = false
theorem ByRow.of_block {W W' : World} {b : Nat} {l : List UInt8} (h : ByRow W b l) (hb : W'.heap[b]? = W.heap[b]?) : ByRow W' b l :=
  fun i hi => ⟨by rw [World.cell?_of_block (w := W) hb]; exact (h i hi).1, by rw [World.frozen?_of_block (w := W) hb]; exact (h i hi).2⟩

theorem ByRow.set {W : World} {b : Nat} {l l' : List UInt8} (h : ByRow W b l) (k : Nat) (hk : k < l.length) (c : UInt8) (hl : l'.length = l.length) (hc : ∀ i, (hi : i < l'.length) → l'[i] = if i = k then c else l[i]'(by omega)) : ByRow (W.setCell ⟨b, k, none⟩ (.int .u8 c.toNat)) b l' := by
  intro i hi
  refine ⟨?_, by rw [World.frozen?_setCell]; exact (h i (by omega)).2⟩
  rw [hc i hi]
  by_cases e : i = k
  · subst e
    rw [World.cell?_setCell_same' _ _ _ (by rw [(h i hk).1]; rfl), if_pos rfl]
  · rw [World.cell?_setCell_other _ _ _ _ (by intro e2; exact e (by cases e2; rfl)), if_neg e]
    exact (h i (by omega)).1
/-- What the caller's own cells hold between two rounds: the variable b, the row of bytes, nothing below turned. -/
def BlankI (w : World) (N cap n : Nat) (L : List UInt8) (pre : List (Stx n)) (W : World) : Prop :=
  W.heap[N + 1]? = some (.cells #[.slice (some ⟨N, 0, none⟩) n cap] 69 (0, 0)) ∧ ByRow W N (M.blankBy L (pre.map (·.1))) ∧ Below w.heap.size w W ∧ N + 3 ≤ W.heap.size
theorem blankI_own (w : World) (N cap n B : Nat) (L : List UInt8) (hN : N = w.heap.size) (hB : N + 2 ≤ B) : OwnFrom B (BlankI w N cap n L) := by
  intro pre W W' row ⟨h1, h2, h3, h4⟩ hg hr
  have hlt : N + 1 < W.heap.size := (Array.getElem?_eq_some_iff.1 h1).1
  have hne : ∀ k, k ≤ N + 1 → some k ≠ row := fun k hk e => by have := (hr k e.symm).1; omega
  exact ⟨(hg.block _ hlt (hne _ (Nat.le_refl _))).trans h1, h2.of_block (hg.block N (by omega) (hne N (by omega))), h3.grown hg (by omega) (fun k e => by have := (hr k e).1; omega), Nat.le_trans h4 hg.size⟩
/-- The loop's variable, in its box. -/
def BlankAx (N cap : Nat) (s : ByteArray) (x : Stx s.size) (a' : Act) (W : World) : Prop :=
  ∃ Bx, N + 2 < Bx ∧ W.heap[Bx]? = some (.cells #[.int .i64 x.1.1, .int .i64 x.1.2] 89 (0, 0)) ∧
    a' = { tmps := #[.string s, undef, .string ⟨#[]⟩, .pointer (some ⟨N + 1, 0, none⟩), .pointer (some ⟨Bx, 0, none⟩), undef, .string s, .slice (some ⟨N, 0, none⟩) s.size cap, .string s, .func (.func 65) #[] #[.pointer (some ⟨N + 2, 0, none⟩)], stV x.1, undef, undef, undef, undef, undef, undef, undef, undef, undef, undef, undef, undef, undef, undef, undef, undef, undef], defers := [] }
theorem blankAx_own (N cap B : Nat) (s : ByteArray) (x : Stx s.size) (a' : Act) : OwnFrom B (fun (_ : Unit) W => BlankAx N cap s x a' W) := by
  rintro _ W W' row ⟨Bx, h1, h2, h3⟩ hg hr
  refine ⟨Bx, h1, (hg.block _ (Array.getElem?_eq_some_iff.1 h2).1 (fun e => ?_)).trans h2, h3⟩
  obtain ⟨_, o, ho, hc⟩ := hr Bx e.symm
  rw [h2] at ho
  cases ho
  cases hc

theorem blank_parts (w : World) (s : ByteArray) (cap : Nat) (w1 : World) (hw1 : w1 = ((Lib.bytesWorld w 5 s).alloc (.cells #[.slice (some ⟨w.heap.size, 0, none⟩) s.size cap] 69)).alloc (.cells #[.string s] 9)) :
    w1.heap.size = w.heap.size + 3 ∧ w1.heap[w.heap.size + 1]? = some (.cells #[.slice (some ⟨w.heap.size, 0, none⟩) s.size cap] 69 (0, 0)) ∧ w1.cell? ⟨w.heap.size + 2, 0, none⟩ = some (.string s) ∧ ByRow w1 w.heap.size s.data.toList ∧ Below w.heap.size w w1 := by
  have hbz := Lib.bytesWorld_size w 5 s
  have hbl := Lib.bytesWorld_below w 5 s
  have hby := bytes_at w s
  have hza : ((Lib.bytesWorld w 5 s).alloc (.cells #[.slice (some ⟨w.heap.size, 0, none⟩) s.size cap] 69)).heap.size = w.heap.size + 2 := by simp [hbz]
  have e0 : w1.heap[w.heap.size]? = (Lib.bytesWorld w 5 s).heap[w.heap.size]? := by rw [hw1, Below.heap_alloc _ _ _ (by omega), Below.heap_alloc _ _ _ (by omega)]
  refine ⟨by rw [hw1]; simp [hbz], ?_, ?_, fun i hi => ?_, by rw [hw1]; exact belowA (belowA hbl _) _⟩
  · rw [hw1, Below.heap_alloc _ _ _ (by omega)]
    have := (MapKept.heap_alloc (Lib.bytesWorld w 5 s) (.cells #[.slice (some ⟨w.heap.size, 0, none⟩) s.size cap] 69)).1
    rw [hbz] at this; exact this
  · rw [hw1, World.cell?_alloc_at _ _ _ _ (by exact hza.symm)]; rfl
  · have h1 := hby.2 i hi
    rw [Nat.zero_add] at h1
    rw [M.size_list] at hi
    refine ⟨by rw [World.cell?_of_block (w := Lib.bytesWorld w 5 s) e0]; exact h1, ?_⟩
    rw [World.frozen?_of_block (w := Lib.bytesWorld w 5 s) e0]
    simp [World.frozen?, Lib.bytesWorld_at_new, Lib.bytesCells]
    intros; omega

theorem grown_set (W : World) (b k : Nat) (v : Value) : W.grownBy (W.setCell ⟨b, k, none⟩ v) (some b) := ⟨rfl, rfl, rfl, by simp [World.setCell], fun j _ hj => Below.heap_setCell _ _ _ _ (fun e => hj (by simp [e]))⟩
theorem grown_trans {A B C : World} {r : Option Nat} (h : A.grownBy B r) (k : B.grownBy C r) : A.grownBy C r :=
  ⟨k.os.trans h.os, k.tape.trans h.tape, k.output.trans h.output, Nat.le_trans h.size k.size, fun j hj hne => (k.block j (Nat.lt_of_lt_of_le hj h.size) hne).trans (h.block j hj hne)⟩
theorem blankOut_none (l : List UInt8) (a : Nat) : M.blankOut l a a = l := by
  apply List.ext_getElem (M.blankOut_len _ _ _)
  intro i h1 h2
  rw [M.blankOut_at, if_neg (by omega)]

attribute [local go_sem] Oper.semAt_some

set_option maxHeartbeats 2000000 in
set_option maxRecDepth 100000 in
theorem blanked_any (s : ByteArray) (w : World) (hs : s.size ≤ 1000000) :
    Calls Tryz.prog 26 #[.string s] w fun e w' => e = .returned (.string (M.str (M.blank s.data.toList))) ∧ Below w.heap.size w w' := by
  have hconv := Lib.run_convert_string_bytes w 9 69 5 s Tryz.underlying9 Tryz.underlying69 Tryz.underlying5
  have HC := Lib.hid hconv
  clear hconv
  refine (callsIn_wide (n := 9)).1 ?_
  refine callsIn_of_wp_marks Tryz.func26 rfl trivial ?_ rfl
  simp only [Tryz.ntmps26, List.size_toArray, List.length_cons, List.length_nil, Nat.reduceAdd, Nat.reduceSub, Array.replicate_succ, Array.replicate_zero, List.push_toArray, List.append_toArray, List.nil_append, List.cons_append]
  gi_wp2_with fail
  rw [HC.out]
  gi_wp2_with fail
  refine ⟨trivial, callsIn_wide.2 ((comments_any s _).mono ?_)⟩
  rintro e w1 ⟨rfl, hw1⟩
  obtain ⟨cap, hcap⟩ : ∃ cap, grownCap w s.size 0 5 = cap := ⟨_, rfl⟩
  rw [hcap] at hw1 ⊢
  obtain ⟨z1, b1, b2, b0, b3⟩ := blank_parts w s cap w1 hw1
  have B0 := Lib.hid b0
  have B1 := Lib.hid b1
  have B2 := Lib.hid b2
  have Z1 := Lib.hid z1
  clear hw1 z1 b0 b1 b2 HC
  gi_wp2_with fail
  simp only [Lib.bytesWorld_size]
  have hz1 := Z1.out
  refine wpIn_rangeFunc_ownH (α := Stx s.size) rfl (by omega) (gf := 65) (lb := #[.pointer (some ⟨w.heap.size + 2, 0, none⟩)]) rfl trivial enters_comments1
    (comments_stops 8 (w.heap.size + 2) s w1 (by omega) hs (by omega) B2.out) (fun h k => ⟨Nat.le_trans h.1 k.1, k.2.trans h.2⟩) (fun W l o o' hl ho _ _ => ⟨by simp, World.putObj_heap_other (by omega)⟩) (Below.refl _ _) (fun _ => rfl)
    (BlankI w w.heap.size cap s.size s.data.toList) (fun _ _ _ => False) (blankI_own w _ cap s.size w1.heap.size _ rfl (by omega)) (fun c s W W' row hs _ _ => hs)
    ⟨B1.out, B0.out, b3, by omega⟩ (BlankAx w.heap.size cap s) (blankAx_own _ cap _ s) ?assign ?body ?done ?stop
  case assign =>
    intro l pre x W K hI hK
    have hK' := Lib.hid hK
    clear hK
    gi_wp2_with fail
    obtain ⟨i1, i2, i3, i4⟩ := hI
    have hlt : w.heap.size + 1 < W.heap.size := by omega
    refine hK'.out _ _ ((KeepsOthers.alloc _ _).from _) ⟨by simp, Below.heap_alloc _ _ _ (by omega)⟩ ⟨(Below.heap_alloc _ _ _ hlt).trans i1, i2.of_block (Below.heap_alloc _ _ _ (by omega)), i3.alloc i3.size _, by simp; omega⟩ ⟨W.heap.size, by omega, (MapKept.heap_alloc W _).1, rfl⟩
  case body =>
    rintro l pre ⟨⟨xa, xb⟩, hx1, hx2⟩ a' W hl hrec ⟨i1, i2, i3, i4⟩ ⟨Bx, hBx, hbx, rfl⟩ hlen
    dsimp only at hx1 hx2 hbx ⊢
    have c1 : W.cell? ⟨w.heap.size + 1, 0, none⟩ = some (.slice (some ⟨w.heap.size, 0, none⟩) s.size cap) := by rw [Lib.cell_of_heap i1]; rfl
    have x0 : W.cell? ⟨Bx, 0, none⟩ = some (.int .i64 xa) := by rw [Lib.cell_of_heap hbx]; rfl
    have x1 : W.cell? ⟨Bx, 1, none⟩ = some (.int .i64 xb) := by rw [Lib.cell_of_heap hbx]; rfl
    have hLlen : (M.blankBy s.data.toList (pre.map (·.1))).length = s.size := by rw [M.blankBy_len, M.size_list]
    obtain ⟨L, hL⟩ : ∃ L, M.blankBy s.data.toList (pre.map (·.1)) = L := ⟨_, rfl⟩
    have hres : M.blankBy s.data.toList ((pre ++ [(⟨(xa, xb), hx1, hx2⟩ : Stx s.size)]).map (·.1)) = M.blankOut L xa xb := by rw [List.map_append, ← hL]; exact M.blankBy_snoc _ _ _
    rw [hL] at i2 hLlen
    have HRES := Lib.hid hres
    have I2 := Lib.hid i2
    have I1 := Lib.hid i1
    have HL := Lib.hid hLlen
    have HBX := Lib.hid hbx
    clear hL hres i2 i1 hLlen hbx
    gi_wp2_with fail
    gi_loopw [5, 16] (fun _ i wr => ∃ k : Nat, xa + k ≤ xb ∧ i = .int .i64 k ∧ ByRow wr w.heap.size (M.blankOut L xa (xa + k)) ∧ W.grownBy wr (some w.heap.size)) (fun _ i _ => xb - xa - (intOf i).toNat)
    case atStart => exact ⟨0, by omega, rfl, by rw [Nat.add_zero, blankOut_none]; exact I2.out, World.grownBy.refl _ _⟩
    case round =>
      rename_i wr
      obtain ⟨k, hk, rfl, hrow, hg⟩ := hrel
      have hr1 := hg.cell c1 (by simp)
      have hr2 := hg.cell x0 (by simp; omega)
      have hr3 := hg.cell x1 (by simp; omega)
      have HROW := Lib.hid hrow
      have HG := Lib.hid hg
      clear hrow hg c1 x0 x1
      by_cases hlt : xa + k < xb
      · have hlen2 : xa + k < (M.blankOut L xa (xa + k)).length := by rw [M.blankOut_len, HL.out]; omega
        obtain ⟨v1, v2⟩ := HROW.out (xa + k) hlen2
        have hset := HROW.out.set (l' := M.blankOut L xa (xa + (k + 1))) (xa + k) hlen2 32 (by rw [M.blankOut_len, M.blankOut_len]) (fun i hi => by
          rw [M.blankOut_at]
          rw [M.blankOut_len] at hi
          by_cases e : i = xa + k
          · rw [if_pos e, if_pos (by omega)]
          · rw [if_neg e, M.blankOut_at]
            by_cases e2 : xa ≤ i ∧ i < xa + k
            · rw [if_pos (by omega), if_pos e2]
            · rw [if_neg (by omega), if_neg e2])
        have HSET := Lib.hid hset
        clear hset
        gi_wp2_with fail
        exact ⟨⟨k + 1, by omega, by go_num, HSET.out, grown_trans HG.out (grown_set _ _ _ _)⟩, by simp [intOf]; omega⟩
      · obtain rfl : xb = xa + k := by omega
        gi_wp2_with fail
        have hg := HG.out
        refine ⟨KeepsFrom.of_grownBy hg (fun j e => by cases e; omega), ⟨hg.size, hg.block _ (by omega) (by simp)⟩, (hg.block _ (by omega) (by simp)).trans I1.out, by rw [HRES.out]; exact HROW.out, i3.grown hg i3.size (fun j e => by cases e; exact Nat.le_refl _), Nat.le_trans i4 hg.size⟩
  case done =>
    rintro D xs W hD hxs ⟨i1, i2, i3, i4⟩ hDef
    have c1 : W.cell? ⟨w.heap.size + 1, 0, none⟩ = some (.slice (some ⟨w.heap.size, 0, none⟩) s.size cap) := by rw [Lib.cell_of_heap i1]; rfl
    have hbk : M.blankBy s.data.toList (xs.map (·.1)) = M.blank s.data.toList := by rw [hxs]; rfl
    rw [hbk] at i2
    have hlen : (M.blank s.data.toList).length = s.size := by unfold M.blank; rw [M.blankBy_len, M.size_list]
    have hback := run_convert_bytes_back (P := Tryz.prog) W 69 9 5 ⟨w.heap.size, 0, none⟩ cap (M.blank s.data.toList) Tryz.underlying69 Tryz.underlying5 Tryz.underlying9 (fun j hj => by
      have e : (⟨w.heap.size, 0, none⟩ : Addr).add j = ⟨w.heap.size, j, none⟩ := by simp [Addr.add]; omega
      rw [e]; exact (i2 j hj).1)
    rw [hlen] at hback
    have HDEF := Lib.hid hDef
    clear i1 i2 hlen hbk hDef hxs
    gi_wp2_with fail
    refine ⟨by simp, .inl ⟨_, _, rfl, run_takeDeferred HDEF.out, ?_⟩⟩
    refine ⟨_, results_tmp rfl _ _ _, rfl, ?_⟩
    exact i3.trans (belowK_b (w := w) (Nat.le_refl _) W D _ _ (by omega) HDEF.out rfl rfl)
  case stop =>
    intro D c pre W hD hp h _
    exact h.elim

end Go.Proofs.YtamdcloahkacnaaGreatDoor
