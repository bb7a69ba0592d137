/- DERIVED. Contract of lex.Comments. -/
import Derived.Test.YtamdcloahkacnaaDoorLexBm
import Derived.Test.YtamdcloahkacnaaDoorLexSb
namespace Go.Proofs.YtamdcloahkacnaaDoor
open Go.RowKit Go.WideMaps Go.Maps Go.Shelf

/-- The cells of a list of stretches. -/
def stCells (l : List (Nat × Nat)) : List Value := l.flatMap fun x => [.int .i64 x.1, .int .i64 x.2]
theorem stCells_len (l : List (Nat × Nat)) : (stCells l).length = l.length * 2 := by
  induction l with
  | nil => rfl
  | cons x l ih => unfold stCells at *; simp only [List.flatMap_cons, List.length_append, ih, List.length_cons, List.length_nil]; omega
theorem stCells_at (l : List (Nat × Nat)) : ∀ i, (h : i < l.length) → (stCells l)[i * 2]? = some (.int .i64 l[i].1) ∧ (stCells l)[i * 2 + 1]? = some (.int .i64 l[i].2) := by
  induction l with
  | nil => intro i h; simp at h
  | cons x l ih =>
    intro i h
    have e : stCells (x :: l) = .int .i64 x.1 :: .int .i64 x.2 :: stCells l := rfl
    rw [e]
    cases i with
    | zero => exact ⟨rfl, rfl⟩
    | succ i =>
      have := ih i (by simpa using h)
      have e1 : (i + 1) * 2 = i * 2 + 1 + 1 := by omega
      rw [e1]
      simp only [List.getElem?_cons_succ, List.getElem_cons_succ]
      exact this
theorem stCells_snoc (l : List (Nat × Nat)) (x : Nat × Nat) : stCells (l ++ [x]) = stCells l ++ [.int .i64 x.1, .int .i64 x.2] := by simp [stCells]
structure StAt (w : World) (b off : Nat) (l : List (Nat × Nat)) : Prop where
  lt : b < w.heap.size
  c0 : ∀ i, (h : i < l.length) → w.cell? ⟨b, off + i * 2, none⟩ = some (.int .i64 l[i].1)
  c1 : ∀ i, (h : i < l.length) → w.cell? ⟨b, off + i * 2 + 1, none⟩ = some (.int .i64 l[i].2)
def StSl (w : World) (a : Option Addr) (l : List (Nat × Nat)) : Prop := l = [] ∨ ∃ b off, a = some ⟨b, off, none⟩ ∧ StAt w b off l
theorem StAt.below {w w' : World} {b off : Nat} {l : List (Nat × Nat)} (h : StAt w b off l) (hb : Below w.heap.size w w') : StAt w' b off l :=
  ⟨Nat.lt_of_lt_of_le h.lt hb.size, fun i hi => by rw [(bcell hb).1 _ _ h.lt]; exact h.c0 i hi, fun i hi => by rw [(bcell hb).1 _ _ h.lt]; exact h.c1 i hi⟩
theorem StSl.below {w w' : World} {a : Option Addr} {l : List (Nat × Nat)} (h : StSl w a l) (hb : Below w.heap.size w w') : StSl w' a l := by
  rcases h with h | ⟨b, off, rfl, h⟩
  · exact Or.inl h
  · exact Or.inr ⟨b, off, rfl, h.below hb⟩
theorem StSl.at {w : World} {a : Option Addr} {l : List (Nat × Nat)} (h : StSl w a l) {k : Nat} (hk : k < l.length) : ∃ b off, a = some ⟨b, off, none⟩ ∧ StAt w b off l := by
  rcases h with h | h
  · subst h; simp at hk
  · exact h
theorem stInfo : (Tryd.prog.info? 59).map (fun i => (i.zero, i.size, i.bytes)) = some (some (.agg #[.int .i64 0, .int .i64 0]), 2, 16) := by kernel_rfl
theorem own_st {w : World} {base : Nat} {v : Value} {l : List (Nat × Nat)} (h : w.ownsRow base 59 2 v l.length (stCells l)) : ∃ a c, v = .slice a l.length c ∧ (a = none → c = 0) ∧ StSl w a l := by
  rcases h.2 with ⟨rfl, h0⟩ | ⟨g, cap, cur, rfl, hb, hg, hn, hm, hs, ht⟩
  · exact ⟨none, 0, by rw [h0], fun _ => rfl, Or.inl (List.length_eq_zero_iff.1 h0)⟩
  · have hlt : g < w.heap.size := (Array.getElem?_eq_some_iff.1 hg).1
    have hcell : ∀ j u, (stCells l)[j]? = some u → w.cell? ⟨g, j, none⟩ = some u := by
      intro j u hu
      have hj : j < l.length * 2 := by
        have := (List.getElem?_eq_some_iff.1 hu).1
        rwa [stCells_len] at this
      simp only [World.cell?, hg]
      rw [← ht, List.getElem?_take, if_pos (by omega)] at hu
      simpa using hu
    refine ⟨_, _, rfl, (fun h => by cases h), Or.inr ⟨g, 0, rfl, hlt, ?_, ?_⟩⟩
    · intro i hi; rw [Nat.zero_add]; exact hcell _ _ (stCells_at l i hi).1
    · intro i hi; rw [Nat.zero_add]; exact hcell _ _ (stCells_at l i hi).2

/-- What the caller's cells hold between two rounds. -/
def CmR (w : World) (B : Nat) (s : ByteArray) (pre : List (Stx s.size)) (W : World) : Prop :=
  ∃ v, Boxed W B 32 v ∧ Boxed W (B + 1) 9 (.string s) ∧ W.ownsRow w.heap.size 59 2 v pre.length (stCells (pre.map (·.1))) ∧ Below w.heap.size w W ∧ w.heap.size ≤ B
theorem cmR_own (w : World) (B K : Nat) (s : ByteArray) (hK : B + 2 ≤ K) : OwnFrom K (CmR w B s) := by
  rintro pre W W' row ⟨v, h1, h2, h3, h4, h5⟩ hg hr
  refine ⟨v, h1.kept hg (fun e => by have := (hr _ e.symm).1; omega), h2.kept hg (fun e => by have := (hr _ e.symm).1; omega), h3.kept hg ?_, h4.grown hg h4.size (fun k e => by have := (hr k e).1; omega), h5⟩
  rcases h3.2 with ⟨rfl, _⟩ | ⟨g, cap, cur, rfl, _, hgb, _⟩
  · exact .inl rfl
  · refine .inr fun e' => ?_
    obtain ⟨_, o, ho, hc⟩ := hr g (by simpa [Value.ownBlock] using e'.symm)
    rw [hgb] at ho; cases ho; cases hc
/-- The loop's variable, in its box. -/
def CmAx (B p : Nat) (s : ByteArray) (x : Stx s.size) (a' : Act) (W : World) : Prop :=
  ∃ Bx, B + 1 < Bx ∧ W.heap[Bx]? = some (.cells #[.int .i64 x.1.1, .int .i64 x.1.2] 59 (0, 0)) ∧
    a' = { tmps := #[.string s, undef, .slice none 0 0, .int .i64 0, .int .i64 0, .int .i64 p, .int .i64 0, .pointer (some ⟨B, 0, none⟩), .pointer (some ⟨Bx, 0, none⟩), .tuple #[.int .i64 p, .int .i64 0], .string s, .tuple #[.int .i64 p, .int .i64 0], .int .i64 p, .int .i64 0, .int .i64 0, .bool false, undef, undef, .string s, .func (.func 36) #[] #[.pointer (some ⟨B + 1, 0, none⟩)], stV x.1, undef, undef, undef, undef, undef], defers := [] }
theorem cmAx_own (B p K : Nat) (s : ByteArray) (x : Stx s.size) (a' : Act) : OwnFrom K (fun (_ : Unit) W => CmAx B p s x a' W) := by
  rintro _ W W' row ⟨Bx, h1, h2, h3⟩ hg hr
  refine ⟨Bx, h1, (hg.block _ (Array.getElem?_eq_some_iff.1 h2).1 (fun e => ?_)).trans h2, h3⟩
  obtain ⟨_, o, ho, hc⟩ := hr Bx e.symm
  rw [h2] at ho
  cases ho
  cases hc
/-- What Comments comes to. -/
def CmPost (r : List (Nat × Nat) × Nat × Nat) (w : World) (e : Ending) (w' : World) : Prop :=
  ∃ a c, e = .returned (.tuple #[.slice a r.1.length c, .int .i64 r.2.1, .int .i64 r.2.2]) ∧ (a = none → c = 0) ∧ StSl w' a r.1 ∧ Below w.heap.size w w'
namespace M
def commentsR (s : List UInt8) : List (Nat × Nat) × Nat × Nat := if (fault s).2 = 0 then (comments s, 0, 0) else ([], (fault s).1, (fault s).2)
end M

attribute [local go_sem] Oper.semAt_some

set_option maxHeartbeats 2000000 in
set_option maxRecDepth 100000 in
theorem lexComments_no (s : ByteArray) (w : World) (hs : s.size ≤ maxLen) (h : (M.fault s.data.toList).2 ≠ 0) :
    Calls Tryd.prog 11 #[.string s] w (CmPost (M.commentsR s.data.toList) w) := by
  obtain ⟨p, c, hf⟩ : ∃ p c, M.fault s.data.toList = (p, c) := ⟨_, _, rfl⟩
  have hres : M.commentsR s.data.toList = ([], p, c) := by unfold M.commentsR; rw [if_neg h, hf]
  rw [hf] at h
  dsimp only at h
  have h3 : ((c : Int) == 0) = false := by rw [beq_eq_false_iff_ne]; omega
  have h4 : ((c : Int) != 0) = true := by rw [bne_iff_ne]; omega
  have HF := Lib.hid hf
  have HRES := Lib.hid hres
  clear hf hres
  go_enter Tryd.func11, Tryd.ntmps11
  go_wp2_with fail
  refine (fault_any s _ hs).mono ?_
  rintro e w1 ⟨rfl, hB1⟩
  rw [HF.out]
  dsimp only
  go_wp2_with fail
  go_ret3
  exact ⟨none, 0, by rw [HRES.out]; rfl, fun _ => rfl, by rw [HRES.out]; exact Or.inl rfl, hB1⟩

set_option maxHeartbeats 2000000 in
set_option maxRecDepth 100000 in
theorem lexComments_yes (s : ByteArray) (w : World) (h : (M.fault s.data.toList).2 = 0) :
    Calls Tryd.prog 11 #[.string s] w (CmPost (M.commentsR s.data.toList) w) := by
  have hsm : s.size ≤ 2500 := by rw [← M.size_list]; exact M.fault_small s.data.toList h
  have hres : M.commentsR s.data.toList = (M.comments s.data.toList, 0, 0) := by unfold M.commentsR; rw [if_pos h]
  have hlen := M.comments_len s.data.toList
  rw [M.size_list] at hlen
  obtain ⟨p, c, hf⟩ : ∃ p c, M.fault s.data.toList = (p, c) := ⟨_, _, rfl⟩
  rw [hf] at h
  dsimp only at h
  subst h
  have HF := Lib.hid hf
  have HRES := Lib.hid hres
  have HLEN := Lib.hid hlen
  clear hf hres hlen
  refine (callsIn_wide (n := 9)).1 ?_
  refine callsIn_of_wp_marks Tryd.func11 rfl trivial ?_ rfl
  simp only [Tryd.ntmps11, List.size_toArray, List.length_cons, List.length_nil, Nat.reduceAdd, Nat.reduceSub, Array.replicate_succ, Array.replicate_zero, List.push_toArray, List.append_toArray, List.nil_append, List.cons_append]
  gi_wp2_with fail
  refine ⟨trivial, callsIn_wide.2 ((fault_any s _ (by unfold maxLen; omega)).mono ?_)⟩
  rintro e w1 ⟨rfl, hB1⟩
  rw [HF.out]
  dsimp only
  gi_wp2_with fail
  refine ⟨trivial, callsIn_wide.2 ((comments_any s _).mono ?_)⟩
  rintro e w2 ⟨rfl, hw2⟩
  have b1 : Boxed w2 w1.heap.size 32 (.slice none 0 0) := by rw [hw2]; exact (Boxed.new w1 _ _).alloc _
  have b2 : Boxed w2 (w1.heap.size + 1) 9 (.string s) := by
    rw [hw2]
    have := Boxed.new (w1.alloc (.cells #[.slice none 0 0] 32)) 9 (.string s)
    simpa using this
  have hz2 : w2.heap.size = w1.heap.size + 2 := by rw [hw2]; simp
  have hB2 : Below w.heap.size w w2 := by rw [hw2]; exact belowA (belowA hB1 _) _
  have c2 := b2.cell
  have h0 : CmR w w1.heap.size s [] w2 := ⟨_, b1, b2, ⟨rfl, Or.inl ⟨rfl, rfl⟩⟩, hB2, hB1.size⟩
  have H0 := Lib.hid h0
  have C2 := Lib.hid c2
  clear hw2 b1 b2 h0 c2
  gi_wp2_with fail
  refine wpIn_rangeFunc_ownH (α := Stx s.size) rfl (by omega) (gf := 36) (lb := #[.pointer (some ⟨w1.heap.size + 1, 0, none⟩)]) rfl trivial enters_comments1
    (comments_stops 8 (w1.heap.size + 1) s w2 (by omega) (by omega) (by omega) C2.out) (fun h k => ⟨Nat.le_trans h.1 k.1, k.2.trans h.2⟩) (fun W l o o' hl ho _ _ => ⟨by simp, World.putObj_heap_other (by omega)⟩) (Below.refl _ _) (fun _ => rfl)
    (CmR w w1.heap.size s) (fun _ _ _ => False) (cmR_own w w1.heap.size w2.heap.size s (by omega)) (fun c s W W' row hs _ _ => hs)
    H0.out (CmAx w1.heap.size p s) (cmAx_own w1.heap.size p _ s) ?assign ?body ?done ?stop
  case assign =>
    intro l pre x W K hI hK
    have hK' := Lib.hid hK
    clear hK
    gi_wp2_with fail
    obtain ⟨v, i1, i2, i3, i4, i5⟩ := hI
    have hlt : w1.heap.size + 1 < W.heap.size := i2.lt
    refine hK'.out _ _ ((KeepsOthers.alloc _ _).from _) ⟨by simp, Below.heap_alloc _ _ _ (by omega)⟩ ⟨v, i1.alloc _, i2.alloc _, i3.alloc _, i4.alloc i4.size _, i5⟩ ⟨W.heap.size, by omega, (MapKept.heap_alloc W _).1, rfl⟩
  case body =>
    rintro l pre ⟨⟨xa, xb⟩, hx1, hx2⟩ a' W hl hrec ⟨v, i1, i2, i3, i4, i5⟩ ⟨Bx, hBx, hbx, rfl⟩ hlen
    dsimp only at hx1 hx2 hbx ⊢
    obtain ⟨i0, hi, hz0, hz1, hz2⟩ := info_parts stInfo
    have c1 := i1.cell
    have x0 : W.cell? ⟨Bx, 0, none⟩ = some (.int .i64 xa) := by rw [Lib.cell_of_heap hbx]; rfl
    have x1 : W.cell? ⟨Bx, 1, none⟩ = some (.int .i64 xb) := by rw [Lib.cell_of_heap hbx]; rfl
    have hcells : stCells ((pre ++ [(⟨(xa, xb), hx1, hx2⟩ : Stx s.size)]).map (·.1)) = stCells (pre.map (·.1)) ++ [.int .i64 xa, .int .i64 xb] := by rw [List.map_append]; exact stCells_snoc _ _
    have hpl : pre.length ≤ 2501 := by have := HLEN.out; omega
    have I1 := Lib.hid i1
    have I2 := Lib.hid i2
    have I3 := Lib.hid i3
    have I4 := Lib.hid i4
    have HCE := Lib.hid hcells
    have hBW : w.heap.size ≤ W.heap.size := i4.size
    clear i1 i2 i3 i4 hcells hbx
    gi_wp2_with (gi_at_builtin; refine wpListIn_append_own _ rfl _ _ 32 rfl w.heap.size 59 i0 (.agg #[.int .i64 0, .int .i64 0]) 2 16 Tryd.underlying32 hi hz0 hz1 hz2 rfl (by decide) _ _ _ rfl (I3.out.alloc _) ⟨W.heap.size, 0, none⟩ 1 1 [.int .i64 xa, .int .i64 xb] rfl rfl ?n1 ?n2 ?n3 ?n4 ?n5 ?_)
    case n2 => exact ⟨rfl, rfl⟩
    case n3 => unfold maxLen; omega
    case n4 => omega
    case n5 => omega
    intro v' w3 hown' hgrow _
    obtain ⟨g', cap', rfl⟩ := ownsRow_succ hown'
    obtain ⟨hv1, hv2, hr2, hk2, hb2⟩ := I1.out.appended (by decide) I3.out hBW i5 hown' hgrow
    have ht1 : Boxed w3 (w1.heap.size + 1) 9 (.string s) := (I2.out.alloc _).kept hgrow (I2.out.not_row (by decide) I3.out)
    have ht2 := ht1.other (B' := w1.heap.size) (by omega) (.slice (some ⟨g', 0, none⟩) (pre.length + 1) cap')
    have hc1 := hv1.cell
    have hf1 := hv1.frozen
    have HT2 := Lib.hid ht2
    have HV2 := Lib.hid hv2
    have HR2 := Lib.hid hr2
    have HK2 := Lib.hid hk2
    have HB2 := Lib.hid hb2
    clear hown' hgrow ht1 ht2 hv1 hv2 hr2 hk2 hb2 c1 hi hz0 hz1 hz2
    gi_wp2_with fail
    refine ⟨HK2.out.from _, ⟨HK2.out.size, HT2.out.trans I2.out.symm⟩, ?_⟩
    refine ⟨_, HV2.out, HT2.out, ?_, I4.out.trans HB2.out, i5⟩
    rw [HCE.out, List.length_append]
    exact HR2.out
  case done =>
    rintro D xs W hD hxs ⟨v, i1, i2, i3, i4, i5⟩ hDef
    rw [hxs] at i3
    have hxl : xs.length = (M.comments s.data.toList).length := by rw [← hxs, List.length_map]
    rw [hxl] at i3
    obtain ⟨a, c, rfl, hnc, _⟩ := own_st i3
    have c1 := i1.cell
    have HDEF := Lib.hid hDef
    have HOWN := Lib.hid i3
    clear i1 i2 i3 hDef hxs hxl
    gi_wp2_with fail
    refine ⟨by simp, .inl ⟨_, _, rfl, run_takeDeferred HDEF.out, ?_⟩⟩
    refine ⟨_, results_tmp3 rfl _ _ _, ?_⟩
    have hkeep := belowK_b (w := w) (Nat.le_refl _) W D (.deferred (some [])) (.deferred none) (by omega) HDEF.out rfl rfl
    have hob : (W.putObj D (.deferred none)).ownsRow w.heap.size 59 2 (.slice a (M.comments s.data.toList).length c) (M.comments s.data.toList).length (stCells (M.comments s.data.toList)) := ownsRow_putObj HOWN.out _ HDEF.out rfl
    obtain ⟨a', c', e', _, hsl'⟩ := own_st hob
    cases e'
    refine ⟨a, c, by rw [HRES.out]; rfl, hnc, by rw [HRES.out]; exact hsl', i4.trans hkeep⟩
  case stop =>
    intro D c pre W hD hp h _
    exact h.elim
end Go.Proofs.YtamdcloahkacnaaDoor
