/- Texts of one's own, joined: OrdBb, OrdBc, BasI, BasJ, OrdBd, OrdBf, OrdBe. -/
import Derived.Test.YthacjdlohmkpoaaGr5
import Derived.Test.YthacjdlohmkpoaaGr23
import Derived.Test.YthacjdlohmkpoaaGr24
import Derived.Test.YthacjdlohmkpoaaGr25
import Derived.Test.YthacjdlohmkpoaaGr17
import Derived.Maps.AppendAt
import Derived.Laws.OwnMore
import Derived.Laws.AppendOwnNone
import Derived.OrdersHeld
import Derived.Test.YthacjdlohmkpoaaGr10
import Derived.Deep.RegionHeldLaw
import Derived.Test.YthacjdlohmkpoaaGr4
import Derived.Test.YthacjdlohmkpoaaGr7
import Derived.Test.YthacjdlohmkpoaaGr1
namespace Go.Proofs.Ythacjdlohmkpoaa
open Go.RowKit
namespace M
theorem asc_of {n : Nat} {l : List Int} (h : (∀ k, k < l.length → 0 ≤ l.getD k 0 ∧ l.getD k 0 < n ∧ (0 < k → l.getD (k - 1) 0 < l.getD k 0))) : asc n l := by
  intro k hk
  have := h k hk
  have hk' : k - 1 < l.length := by omega
  simp only [List.getD_eq_getElem?_getD, List.getElem?_eq_getElem hk, List.getElem?_eq_getElem hk', Option.getD_some] at this
  exact this
theorem form_of {t : Tb} (h1 : isTabB t.name = true) (h2 : 1 ≤ t.elems.length ∧ t.elems.length ≤ 12 ∧ t.above.length = t.elems.length ∧ t.wrong.length = t.elems.length)
    (h3 : t.elems.all (fun s => isNameB s.data.toList) = true) (h4 : ∀ i, i < t.elems.length → ∀ j, j < t.elems.length → i < j → (t.elems.getD i ⟨#[]⟩).data.toList ≠ (t.elems.getD j ⟨#[]⟩).data.toList)
    (h5 : ∀ i, i < t.above.length → ∀ k, k < (t.above.getD i []).length → 0 ≤ (t.above.getD i []).getD k 0 ∧ (t.above.getD i []).getD k 0 < t.elems.length ∧ (0 < k → (t.above.getD i []).getD (k - 1) 0 < (t.above.getD i []).getD k 0)) : form t := by
  refine ⟨h1, h2.1, h2.2.1, h2.2.2.1, h2.2.2.2, fun i hi => ?_, fun i j hi hj hij e => ?_, fun i hi => ?_⟩
  · rw [List.all_eq_true] at h3
    exact h3 _ (List.getElem_mem hi)
  · apply h4 i hi j hj hij
    simp only [List.getD_eq_getElem?_getD, List.getElem?_eq_getElem hi, List.getElem?_eq_getElem hj, Option.getD_some, e]
  · have := asc_of (h5 i hi)
    rw [List.getD_eq_getElem?_getD, List.getElem?_eq_getElem hi, Option.getD_some] at this
    exact this
theorem dia_form : form dia := form_of (by decide +kernel) (by decide +kernel) (by decide +kernel) (by decide +kernel) (by decide +kernel)
theorem man_form : form man := form_of (by decide +kernel) (by decide +kernel) (by decide +kernel) (by decide +kernel) (by decide +kernel)
theorem dia_brk : brk dia = (0, 0, 0) := by decide +kernel
theorem man_brk : brk man = (4, 1, 2) := by decide +kernel
theorem dia_jn : jnD dia 1 2 = 3 := by decide +kernel
theorem dia_prt : listN (prt dia 3) 12 = [1, 2] := by decide +kernel
theorem dia_txt : txt dia = [108, 97, 116, 116, 105, 99, 101, 32, 108, 32, 123, 32, 97, 58, 32, 98, 44, 32, 99, 59, 32, 98, 58, 32, 100, 59, 32, 99, 58, 32, 100, 59, 32, 100, 33, 32, 125] := by decide +kernel
theorem dia_h : isH dia 0 2 := isH_it dia_form (by decide +kernel) (by decide +kernel) (by decide +kernel)
def shp : Sh := .mk 6 ⟨#[]⟩ [.mk 7 ⟨#[]⟩ [.mk 1 ⟨#[]⟩ [], .mk 5 ⟨#[108]⟩ []]]
theorem shp_deep : deepB shp 4 = false := by decide +kernel
theorem shp_ok : shp.okB = true := by decide +kernel
theorem shp_txt : shp.txt = [109, 97, 112, 40, 112, 97, 105, 114, 40, 102, 108, 97, 103, 44, 32, 108, 41, 41] := by decide +kernel
end M
end Go.Proofs.Ythacjdlohmkpoaa

namespace Go.Proofs.Ythacjdlohmkpoaa
open Go.RowKit

theorem dia_al : ∀ l, l ∈ M.dia.above → l.length ≤ 1000000 := by decide +kernel
theorem man_al : ∀ l, l ∈ M.man.above → l.length ≤ 1000000 := by decide +kernel
theorem dia_nz : ¬ (M.brk M.dia).1 ≠ 0 := by rw [M.dia_brk]; simp
theorem joinDia (p : Tp) (w : World) (ht : TbIn w M.dia p) : Calls Try.prog 29 #[tbV M.dia p, .int .i64 1, .int .i64 2] w fun e w' => e = .returned (.tuple #[.int .i64 3, .int .i64 0]) ∧ Below w.heap.size w w' := by
  refine (joinX_any M.dia p 1 2 w dia_al ht).mono ?_
  rintro e w' ⟨⟨hf, _⟩ | ⟨_, hk, _⟩ | ⟨_, hin, _⟩ | ⟨_, _, rfl⟩, hB⟩
  · exact absurd M.dia_form hf
  · exact absurd hk dia_nz
  · exact absurd hin (by decide +kernel)
  · refine ⟨?_, hB⟩
    rw [show M.jnD M.dia (Int.toNat 1) (Int.toNat 2) = 3 from M.dia_jn]; rfl
theorem proveMan (p : Tp) (w : World) (ht : TbIn w M.man p) : Calls Try.prog 28 #[tbV M.man p] w fun e w' => e = .returned (.tuple #[.agg #[.int .u8 4, .int .i64 1, .int .i64 2], .int .i64 12]) ∧ Below w.heap.size w w' := by
  refine (prove_any M.man p w man_al ht).mono ?_
  rintro e w' ⟨⟨hf, _⟩ | ⟨_, hk, rfl⟩ | ⟨_, hk, _⟩, hB⟩
  · exact absurd M.man_form hf
  · refine ⟨?_, hB⟩
    rw [M.man_brk]; rfl
  · rw [M.man_brk] at hk; cases hk
theorem heightDia (p : Tp) (w : World) (ht : TbIn w M.dia p) : Calls Try.prog 23 #[tbV M.dia p] w fun e w' => e = .returned (.tuple #[.int .i64 2, .int .i64 0]) ∧ Below w.heap.size w w' := by
  refine (heightX_any M.dia p w dia_al ht).mono ?_
  rintro e w' ⟨⟨hf, _⟩ | ⟨_, hk, _⟩ | ⟨_, k, hk, rfl⟩, hB⟩
  · exact absurd M.dia_form hf
  · exact absurd hk dia_nz
  · obtain rfl := M.isH_one hk M.dia_h
    exact ⟨rfl, hB⟩
theorem textDia (p : Tp) (w : World) (ht : TbIn w M.dia p) : Calls Try.prog 12 #[tbV M.dia p] w fun e w' => e = .returned (.tuple #[.string ⟨#[108, 97, 116, 116, 105, 99, 101, 32, 108, 32, 123, 32, 97, 58, 32, 98, 44, 32, 99, 59, 32, 98, 58, 32, 100, 59, 32, 99, 58, 32, 100, 59, 32, 100, 33, 32, 125]⟩, .int .i64 0]) ∧ Below w.heap.size w w' := by
  refine (text_any M.dia p w dia_al ht).mono ?_
  rintro e w' ⟨⟨hf, _⟩ | ⟨_, rfl⟩, hB⟩
  · exact absurd M.dia_form hf
  · refine ⟨?_, hB⟩
    rw [M.dia_txt]; rfl
theorem partsDia (p : Tp) (w : World) (ht : TbIn w M.dia p) : Calls Try.prog 17 #[tbV M.dia p, .int .i64 3] w fun e w' => (∃ la c, e = .returned (.tuple #[.slice la 2 c, .int .i64 0]) ∧ IntSl w' la [1, 2]) ∧ Below w.heap.size w w' := by
  refine (partsX_any M.dia p 3 w dia_al ht).mono ?_
  rintro e w' ⟨⟨hf, _⟩ | ⟨_, hk, _⟩ | ⟨_, hin, _⟩ | ⟨_, _, la, c, rfl, _, _, h⟩, hB⟩
  · exact absurd M.dia_form hf
  · exact absurd hk dia_nz
  · exact absurd hin (by decide +kernel)
  · rw [show M.listN (M.prt M.dia (Int.toNat 3)) 12 = [1, 2] from M.dia_prt] at h ⊢
    exact ⟨⟨la, c, rfl, h⟩, hB⟩
theorem shapeMap (a : Option Addr) (c : Nat) (w : World) (hs : ShAt w M.shp a c) : Calls Try.prog 32 #[.agg #[.int .u8 6, .string ⟨#[]⟩, .slice a 1 c]] w fun e w' => e = .returned (.tuple #[.string ⟨#[109, 97, 112, 40, 112, 97, 105, 114, 40, 102, 108, 97, 103, 44, 32, 108, 41, 41]⟩, .int .i64 0]) ∧ Below w.heap.size w w' := by
  refine (ShapeText_any M.shp a c w hs).mono ?_
  rintro e w' ⟨⟨hd, _⟩ | ⟨_, ho, _⟩ | ⟨_, _, rfl⟩, hB⟩
  · rw [M.shp_deep] at hd; cases hd
  · rw [M.shp_ok] at ho; cases ho
  · refine ⟨?_, hB⟩
    rw [M.shp_txt]; rfl

/-- The shape of the small test, laid. -/
theorem shp_laid (w : World) : ShAt ((w.alloc (.cells #[.int .u8 1, .string ⟨#[]⟩, .slice none 0 0, .int .u8 5, .string ⟨#[108]⟩, .slice none 0 0] 60)).alloc (.cells #[.int .u8 7, .string ⟨#[]⟩, .slice (some ⟨w.heap.size, 0, none⟩) 2 2] 60)) M.shp (some ⟨w.heap.size + 1, 0, none⟩) 1 := by
  have h0 := box_new w #[.int .u8 1, .string ⟨#[]⟩, .slice none 0 0, .int .u8 5, .string ⟨#[108]⟩, .slice none 0 0] 60
  obtain ⟨w1, e1⟩ : ∃ w1, w.alloc (.cells #[.int .u8 1, .string ⟨#[]⟩, .slice none 0 0, .int .u8 5, .string ⟨#[108]⟩, .slice none 0 0] 60) = w1 := ⟨_, rfl⟩
  have s1 : w1.heap.size = w.heap.size + 1 := by rw [← e1, World.size_alloc]
  rw [e1] at h0 ⊢
  have h1 := box_new w1 #[.int .u8 7, .string ⟨#[]⟩, .slice (some ⟨w.heap.size, 0, none⟩) 2 2] 60
  have h2 := heap_below h0 (below1 w1 (.cells #[.int .u8 7, .string ⟨#[]⟩, .slice (some ⟨w.heap.size, 0, none⟩) 2 2] 60))
  have s2 : (w1.alloc (.cells #[.int .u8 7, .string ⟨#[]⟩, .slice (some ⟨w.heap.size, 0, none⟩) 2 2] 60)).heap.size = w1.heap.size + 1 := by rw [World.size_alloc]
  obtain ⟨w2, e2⟩ : ∃ w2, w1.alloc (.cells #[.int .u8 7, .string ⟨#[]⟩, .slice (some ⟨w.heap.size, 0, none⟩) 2 2] 60) = w2 := ⟨_, rfl⟩
  rw [e2] at h1 h2 s2 ⊢
  rw [s1] at h1 s2
  unfold M.shp
  rw [ShAt]
  refine ⟨fun h => (by cases h), Nat.le_refl 1, by decide, Or.inr ⟨_, 0, rfl, by omega, ?_⟩⟩
  rw [KidsAt, KidsAt]
  refine ⟨⟨_, _, by rw [Lib.cell_of_heap h1]; rfl, by rw [Lib.cell_of_heap h1]; rfl, by rw [Lib.cell_of_heap h1]; rfl, ?_⟩, trivial⟩
  rw [ShAt]
  refine ⟨fun h => (by cases h), Nat.le_refl 2, by decide, Or.inr ⟨_, 0, rfl, by omega, ?_⟩⟩
  rw [KidsAt, KidsAt, KidsAt]
  refine ⟨⟨none, 0, by rw [Lib.cell_of_heap h2]; rfl, by rw [Lib.cell_of_heap h2]; rfl, by rw [Lib.cell_of_heap h2]; rfl, ?_⟩, ⟨none, 0, by rw [Lib.cell_of_heap h2]; rfl, by rw [Lib.cell_of_heap h2]; rfl, by rw [Lib.cell_of_heap h2]; rfl, ?_⟩, trivial⟩
  · rw [ShAt]; exact ⟨fun _ => rfl, Nat.le_refl 0, by decide, Or.inl rfl⟩
  · rw [ShAt]; exact ⟨fun _ => rfl, Nat.le_refl 0, by decide, Or.inl rfl⟩

set_option maxHeartbeats 8000000 in
set_option maxRecDepth 100000 in
theorem awake_any (w : World) : Calls Try.prog 9 #[] w fun e w' => e = .returned (.bool true) ∧ Below w.heap.size w w' := by
  go_enter Try.func9, Try.ntmps9
  go_wp2_with fail
  refine (diamond_any _).mono ?_
  rintro e w1 ⟨p1, rfl, HT1, hB1⟩
  have HJ := Lib.hid (joinDia p1 w1 HT1)
  clear HT1
  go_wp2_with fail
  refine HJ.out.mono ?_
  rintro e w2 ⟨rfl, hB2⟩
  have HB2 := Lib.hid (below2 hB1 hB2)
  clear hB1 hB2 HJ
  go_wp2_with fail
  refine (many_any _).mono ?_
  rintro e w3 ⟨p3, rfl, HT3, hB3⟩
  have HJ := Lib.hid (proveMan p3 w3 HT3)
  have hB3 := below2 HB2.out hB3
  clear HT3 HB2
  go_wp2_with fail
  refine HJ.out.mono ?_
  rintro e w4 ⟨rfl, hB4⟩
  have HB4 := Lib.hid (below2 hB3 hB4)
  clear hB3 hB4 HJ
  go_wp2_with fail
  have HX := Lib.hid (box_new w4 #[.int .u8 4, .int .i64 1, .int .i64 2] 52)
  have HB4 := Lib.hid (belowA HB4.out (.cells #[.int .u8 4, .int .i64 1, .int .i64 2] 52))
  refine (diamond_any _).mono ?_
  rintro e w5 ⟨p5, rfl, HT5, hB5⟩
  have HX := Lib.hid (heap_below HX.out hB5)
  have hB5 := below2 HB4.out hB5
  have HJ := Lib.hid (heightDia p5 w5 HT5)
  clear HT5 HB4
  go_wp2_with fail
  refine HJ.out.mono ?_
  rintro e w6 ⟨rfl, hB6⟩
  have HX := Lib.hid (heap_below HX.out hB6)
  have HB6 := Lib.hid (below2 hB5 hB6)
  clear hB5 hB6 HJ
  go_wp2_with fail
  refine (diamond_any _).mono ?_
  rintro e w7 ⟨p7, rfl, HT7, hB7⟩
  have HX := Lib.hid (heap_below HX.out hB7)
  have hB7 := below2 HB6.out hB7
  have HJ := Lib.hid (textDia p7 w7 HT7)
  clear HT7 HB6
  go_wp2_with fail
  refine HJ.out.mono ?_
  rintro e w8 ⟨rfl, hB8⟩
  have HX := Lib.hid (heap_below HX.out hB8)
  have HB8 := Lib.hid (below2 hB7 hB8)
  clear hB7 hB8 HJ
  go_wp2_with fail
  refine (diamond_any _).mono ?_
  rintro e w9 ⟨p9, rfl, HT9, hB9⟩
  have HX := Lib.hid (heap_below HX.out hB9)
  have hB9 := below2 HB8.out hB9
  have HJ := Lib.hid (partsDia p9 w9 HT9)
  clear HT9 HB8
  go_wp2_with fail
  refine HJ.out.mono ?_
  rintro e w10 ⟨⟨la, lc, rfl, hl⟩, hB10⟩
  have HX := Lib.hid (heap_below HX.out hB10)
  have HL := Lib.hid hl
  have HB10 := Lib.hid (below2 hB9 hB10)
  clear hB9 hB10 HJ hl
  go_wp2_with fail
  refine (shapeMap _ 1 _ (shp_laid w10)).mono ?_
  rintro e w11 ⟨rfl, hB11⟩
  have HB11 := Lib.hid (below2 (belowA (belowA HB10.out _) _) hB11)
  have hs := below2 (belowA (below1 w10 _) _) hB11
  have HX := Lib.hid (heap_below HX.out hs)
  have HL := Lib.hid (HL.out.below hs)
  clear hB11 HB10 hs
  have x0 : w11.cell? ⟨w4.heap.size, 0, none⟩ = some (.int .u8 4) := by rw [Lib.cell_of_heap HX.out]; rfl
  have x1 : w11.cell? ⟨w4.heap.size, 1, none⟩ = some (.int .i64 1) := by rw [Lib.cell_of_heap HX.out]; rfl
  have x2 : w11.cell? ⟨w4.heap.size, 2, none⟩ = some (.int .i64 2) := by rw [Lib.cell_of_heap HX.out]; rfl
  go_wp2_with fail
  have hb := below1 w11 (.cells #[.int .i64 1, .int .i64 2] 3)
  have hL := HL.out.below hb
  refine (sameInts_any la _ lc 2 [1, 2] [1, 2] _ (by decide) hL (cel_box (box_new w11 _ _) [1, 2] rfl)).mono ?_
  rintro e w12 ⟨rfl, hB12⟩
  have HB12 := Lib.hid (below2 (belowA HB11.out _) hB12)
  clear hB12 HB11 hL hb
  go_wp2_with fail
  go_ret
  exact ⟨rfl, HB12.out⟩
end Go.Proofs.Ythacjdlohmkpoaa

namespace Go.Proofs.Ythacjdlohmkpoaa
open Go.RowKit

/-- The post of one operation's walk: behind it K. -/
def then1 (K : Act → World → Prop) (Q : Exit → Act → World → Prop) : Exit → Act → World → Prop
  | .normal, a, w => K a w
  | e, a, w => Q e a w
theorem upon_then {P : Program} {o : Oper} {a : Act} {K : Act → World → Prop} {Q : Exit → Act → World → Prop} {r : Result Next} (h : o.upon P a K (then1 K Q) r) : o.upon P a K Q r := by
  cases r with
  | ok n w' => cases n <;> exact h
  | halt x w' => cases x <;> exact h
theorem wpOp_list {P : Program} {ops : Array Oper} {Q : Exit → Act → World → Prop} {i : Nat} {o : Oper} {K : Act → World → Prop} {a : Act} {w : World} (ho : ops[i]? = some o) (h : wpList P ops (then1 K Q) [o] a w) : wpOp P ops Q i K a w := by
  unfold wpOp
  rw [ho]
  unfold wpList at h
  simp only
  split
  · rename_i hw
    rw [if_pos hw] at h
    rcases h with h | ⟨h1, h2⟩
    · exact Or.inl (upon_then h)
    · exact Or.inr ⟨h1, h2⟩
  · rename_i hw
    rw [if_neg hw] at h
    exact h
theorem wpOp_walk {P : Program} {ops : Array Oper} {Q : Exit → Act → World → Prop} {i : Nat} {o : Oper} {K : Act → World → Prop} {a : Act} {w : World} (ho : ops[i]? = some o) (h : ∀ K' : Act → World → Prop, Hid (∀ a w, K a w → K' a w) → wpList P ops (then1 K' Q) [o] a w) : wpOp P ops Q i K a w :=
  wpOp_list ho (h K (Lib.hid fun _ _ h => h))
theorem ready_at {md : Region.Mode} {ops : Array Oper} {L : Array Bool} {i : Nat} (h : i ∈ Region.ready md ops L) : i < ops.size ∧ L.getD i true = false := by
  unfold Region.ready at h
  rw [List.mem_filter, List.mem_range, Bool.and_eq_true, Bool.not_eq_true'] at h
  exact ⟨h.1, h.2.1⟩
theorem ready_none {md : Region.Mode} {ops : Array Oper} {L : Array Bool} (h : L.toList.count false = 0) : Region.ready md ops L = [] := by
  rw [List.eq_nil_iff_forall_not_mem]
  intro i hi
  obtain ⟨_, h2⟩ := ready_at hi
  rw [List.count_eq_zero] at h
  apply h
  rw [Array.getD_eq_getD_getElem?] at h2
  cases hq : L[i]? with
  | none => rw [hq] at h2; cases h2
  | some b =>
    rw [hq] at h2
    have : b = false := h2
    subst this
    exact Array.mem_toList_iff.2 (Array.mem_of_getElem? hq)
/-- A region that draws its order, by what holds behind any part of it. -/
theorem wpAnyH_inv {P : Program} {md : Region.Mode} {ops : Array Oper} {Q : Exit → Act → World → Prop} {S : World → Prop} (I : Array Bool → Act → World → Prop)
    (hstep : ∀ L a w, I L a w → ∀ i, i ∈ Region.ready md ops L → wpOp P ops Q i (fun a' w' => S w' ∧ I (L.setIfInBounds i true) a' w') a w)
    (hend : ∀ L a w, I L a w → Region.ready md ops L = [] → Q .normal a w) : ∀ fuel L a w, L.toList.count false ≤ fuel → I L a w → wpAnyH P md ops Q S fuel L a w := by
  intro fuel
  induction fuel with
  | zero =>
    intro L a w hc hI
    have hr := ready_none (md := md) (ops := ops) (Nat.le_zero.1 hc)
    exact ⟨hr, hend L a w hI hr⟩
  | succ fuel ih =>
    intro L a w hc hI
    refine ⟨fun hr => hend L a w hI hr, fun i hi => ?_⟩
    obtain ⟨_, h2⟩ := ready_at hi
    have hlt : i < L.size := by
      rcases Nat.lt_or_ge i L.size with q | q
      · exact q
      · rw [Array.getD_eq_getD_getElem?, Array.getElem?_eq_none q] at h2; cases h2
    have hv : L.toList[i]'(by simpa using hlt) = false := by
      rw [Array.getD_eq_getD_getElem?, Array.getElem?_eq_getElem hlt] at h2
      simpa using h2
    refine wpOp_mono (fun a' w' hq => ⟨hq.1, ih _ a' w' ?_ hq.2⟩) (hstep L a w hI i hi)
    rw [Array.toList_setIfInBounds, List.count_set (by simpa using hlt), hv]
    have : 0 < L.toList.count false := by rw [List.count_pos_iff]; rw [← hv]; exact List.getElem_mem _
    show L.toList.count false - 1 + 0 ≤ fuel
    omega

/-- What a row of one's own is, is told by its block alone. -/
theorem own_same {w w' : World} {base : Nat} {e : TypeId} {size : Nat} {v : Value} {n : Nat} {xs : List Value} (h : w.ownsRow base e size v n xs) (hk : ∀ g, v.ownBlock = some g → w'.heap[g]? = w.heap[g]?) : w'.ownsRow base e size v n xs := by
  refine ⟨h.1, ?_⟩
  rcases h.2 with h | ⟨g, cap, cur, e1, hb, hg, hr⟩
  · exact Or.inl h
  · exact Or.inr ⟨g, cap, cur, e1, hb, by rw [hk g (by rw [e1]; rfl)]; exact hg, hr⟩
theorem own_lt {w : World} {base : Nat} {e : TypeId} {size : Nat} {v : Value} {n g : Nat} {xs : List Value} (h : w.ownsRow base e size v n xs) (hg : v.ownBlock = some g) : base ≤ g ∧ g < w.heap.size := by
  rcases h.2 with ⟨rfl, _⟩ | ⟨g', cap, cur, rfl, hb, hg', _⟩
  · cases hg
  · have e1 : g' = g := by injection hg
    subst e1
    refine ⟨hb, ?_⟩
    rcases Nat.lt_or_ge g' w.heap.size with q | q
    · exact q
    · rw [Array.getElem?_eq_none q] at hg'; cases hg'
/-- A row that is laid empty. -/
theorem own_made (w : World) (base : Nat) (e : TypeId) (size : Nat) (hb : base ≤ w.heap.size) : (w.alloc (.cells #[] e)).ownsRow base e size (.slice (some ⟨w.heap.size, 0, none⟩) 0 0) 0 [] :=
  ⟨by simp, Or.inr ⟨w.heap.size, 0, #[], rfl, hb, box_new w #[] e, Nat.le_refl _, Nat.zero_le _, by simp, by simp⟩⟩
/-- 'append' of a list onto a row of one's own. -/
theorem wpList_app_cel {α : Type} {f : α → Value} {P : Program} (w : World) {ops : Array Oper} {rest : List Oper} {o : Oper} {a : Act} {Q : Exit → Act → World → Prop}
    (hg : o.guard = none) (s x : Operand) (t : TypeId) (hop : o.op = Op.call { callee := Callee.builtin Builtin.append, args := #[s, x], argTypes := #[t, t] })
    (e : TypeId) (i : TypeInfo) (z : Value) (bytes : Nat) (h1 : P.underlying t = some (.slice e)) (h2 : P.info? e = some i) (h3 : i.zero = some z) (h4 : i.size = 1) (h5 : i.bytes = bytes) (h6 : z.cells.size = 1) (hby : bytes ≤ 100)
    (hone : ∀ x, (f x).oneCell' = true)
    (base : Nat) (v : Value) (xs : List α) (hs : a.eval s = v) (hq : w.ownsRow base e 1 v xs.length (xs.map f)) (hbase : base ≤ w.heap.size)
    (ad : Option Addr) (c : Nat) (l : List α) (hx : a.eval x = .slice ad l.length c) (hc : ad = none → c = 0) (hl : CelSl f w ad l) (hle : xs.length + l.length ≤ 1000000)
    (hK : ∀ v' w', w'.ownsRow base e 1 v' (xs ++ l).length ((xs ++ l).map f) → w.grownBy w' v.ownBlock → (v'.ownBlock = v.ownBlock ∨ v'.ownBlock = some w.heap.size) → (v ≠ .slice none 0 0 → v' ≠ .slice none 0 0) → wpList P ops Q rest (a.put o.dst v') w') : wpList P ops Q (o :: rest) a w := by
  cases ad with
  | none =>
    obtain rfl := hc rfl
    have h0 : l = [] := by
      rcases hl with h | ⟨_, _, h, _⟩
      · exact h
      · cases h
    subst h0
    refine wpList_append_own_none hg s x t hop base e i 1 h1 h2 v xs.length (xs.map f) hs hq hx ?_
    exact hK v w (by rw [List.append_nil]; exact hq) (World.grownBy.refl _ _) (Or.inl rfl) id
  | some ad =>
    refine wpList_append_own_at w hg s x t hop base e i z 1 bytes h1 h2 h3 h4 h5 h6 (by decide) v xs.length (xs.map f) hs hq ad l.length c (l.map f) hx (by simp) ?_ ?_ (by unfold maxLen; omega) (by have := Nat.mul_le_mul hle hby; omega) hbase ?_
    · intro j u hj
      rw [List.getElem?_map] at hj
      cases hq : l[j]? with
      | none => rw [hq] at hj; cases hj
      | some y =>
        rw [hq] at hj
        cases hj
        obtain ⟨hj', e1⟩ := List.getElem?_eq_some_iff.1 hq
        obtain ⟨b, off, e2, hA⟩ := CelSl.at hl hj'
        cases e2
        have : (⟨b, off, none⟩ : Addr).add j = ⟨b, off + j, none⟩ := by simp [Addr.add]
        rw [this, hA.at_ j hj', e1]
    · intro u hu
      obtain ⟨y, _, rfl⟩ := List.mem_map.1 hu
      exact hone y
    · intro v' w' k1 k2 k3 k4
      refine hK v' w' (by rw [List.map_append, List.length_append]; exact k1) k2 k4 (fun hn hn' => ?_)
      exact hn (k3.1 hn').1
/-- What lies in a row of one's own. -/
theorem own_cel {α : Type} {f : α → Value} {w : World} {base : Nat} {e : TypeId} {v : Value} {l : List α} (h : w.ownsRow base e 1 v l.length (l.map f)) : ∃ a c, v = .slice a l.length c ∧ (a = none → c = 0) ∧ l.length ≤ c ∧ CelSl f w a l := by
  rcases h.2 with ⟨rfl, h0⟩ | ⟨g, cap, cur, rfl, hb, hg, hn, hm, hs, ht⟩
  · exact ⟨none, 0, by rw [h0], fun _ => rfl, by omega, Or.inl (List.length_eq_zero_iff.1 h0)⟩
  · refine ⟨_, cap, rfl, fun h => (by cases h), hn, Or.inr ⟨g, 0, rfl, ?_, fun i hi => ?_⟩⟩
    · rcases Nat.lt_or_ge g w.heap.size with q | q
      · exact q
      · simp [Array.getElem?_eq_none q] at hg
    · simp only [World.cell?, hg, Nat.zero_add]
      have h2 : (cur.toList.take (l.length * 1))[i]? = (l.map f)[i]? := by rw [ht]
      rw [List.getElem?_take, if_pos (by omega)] at h2
      simpa [hi] using h2
end Go.Proofs.Ythacjdlohmkpoaa

namespace Go.Proofs.Ythacjdlohmkpoaa
open Go.RowKit

theorem heap_set_same {w : World} {B : Nat} {cs : Array Value} {T : TypeId} (h : w.heap[B]? = some (.cells cs T (0, 0))) (k : Nat) (v : Value) : (w.setCell ⟨B, k, none⟩ v).heap[B]? = some (.cells (cs.setIfInBounds k v) T (0, 0)) := by
  simp [World.setCell, Array.getElem?_modify, h]
theorem heap_set_other (w : World) (B k : Nat) (v : Value) {j : Nat} (hj : j ≠ B) : (w.setCell ⟨B, k, none⟩ v).heap[j]? = w.heap[j]? := by
  simp [World.setCell, Array.getElem?_modify, Ne.symm hj]
theorem grown_set (w : World) (B k : Nat) (v : Value) : w.grownBy (w.setCell ⟨B, k, none⟩ v) (some B) :=
  ⟨rfl, rfl, rfl, by simp, fun j _ hne => heap_set_other w B k v (fun e => hne (by rw [e]))⟩

/-- A list of lists of the call's own whose lists lie in blocks that are as asked. -/
def NestQ {α : Type} (ok : Nat → Prop) (f : α → Value) (w : World) (base : Nat) (e : TypeId) (v : Value) (rows : List (List α)) : Prop :=
  ∃ vals, w.ownsRow base e 1 v rows.length vals ∧ ∀ i, (h : i < rows.length) → ∃ a c, vals[i]? = some (.slice a rows[i].length c) ∧ (a = none → c = 0) ∧ rows[i].length ≤ c ∧ (rows[i] = [] ∨ ∃ b off, a = some ⟨b, off, none⟩ ∧ some b ≠ v.ownBlock ∧ ok b ∧ CelAt f w b off rows[i])
theorem NestQ.nil {α : Type} (ok : Nat → Prop) (f : α → Value) (w : World) (base : Nat) (e : TypeId) : NestQ ok f w base e (.slice none 0 0) [] := ⟨[], ⟨rfl, Or.inl ⟨rfl, rfl⟩⟩, fun i hi => by simp at hi⟩
theorem NestQ.own {α : Type} {ok : Nat → Prop} {f : α → Value} {w : World} {base : Nat} {e : TypeId} {v : Value} {rows : List (List α)} (h : NestQ ok f w base e v rows) : NestOwn f w base e v rows := by
  obtain ⟨vals, h1, h2⟩ := h
  refine ⟨vals, h1, fun i hi => ?_⟩
  obtain ⟨a, c, q1, q2, q3, q4⟩ := h2 i hi
  refine ⟨a, c, q1, q2, q3, ?_⟩
  rcases q4 with q | ⟨b, off, r1, r2, _, r3⟩
  · exact Or.inl q
  · exact Or.inr ⟨b, off, r1, r2, r3⟩
theorem NestQ.kept {α : Type} {ok : Nat → Prop} {f : α → Value} {w w' : World} {base : Nat} {e : TypeId} {v : Value} {rows : List (List α)} (h : NestQ ok f w base e v rows) (hsz : w.heap.size ≤ w'.heap.size)
    (h1 : ∀ g, v.ownBlock = some g → w'.heap[g]? = w.heap[g]?) (h2 : ∀ b, b < w.heap.size → ok b → w'.heap[b]? = w.heap[b]?) : NestQ ok f w' base e v rows := by
  obtain ⟨vals, k1, k2⟩ := h
  refine ⟨vals, own_same k1 h1, fun i hi => ?_⟩
  obtain ⟨a, c, q1, q2, q3, q4⟩ := k2 i hi
  refine ⟨a, c, q1, q2, q3, ?_⟩
  rcases q4 with q | ⟨b, off, r1, r2, r3, r4⟩
  · exact Or.inl q
  · exact Or.inr ⟨b, off, r1, r2, r3, Nat.lt_of_lt_of_le r4.lt hsz, fun j hj => by rw [World.cell?_of_block (w := w) (h2 b r4.lt r3)]; exact r4.at_ j hj⟩
theorem NestQ.slice {α : Type} {ok : Nat → Prop} {f : α → Value} {w : World} {base : Nat} {e : TypeId} {v : Value} {rows : List (List α)} (h : NestQ ok f w base e v rows) : ∃ a c, v = .slice a rows.length c := h.own.slice

theorem wpList_append_nestQ {α : Type} {ok : Nat → Prop} {f : α → Value} {P : Program} (w : World) {ops : Array Oper} {rest : List Oper} {o : Oper} {a : Act} {Q : Exit → Act → World → Prop}
    (hg : o.guard = none) (s x : Operand) (t : TypeId) (hop : o.op = Op.call { callee := Callee.builtin Builtin.append, args := #[s, x], argTypes := #[t, t] })
    (e : TypeId) (i : TypeInfo) (h1 : P.underlying t = some (.slice e)) (h2 : P.info? e = some i) (h3 : i.zero = some (.slice none 0 0)) (h4 : i.size = 1) (h5 : i.bytes = 24)
    (base : Nat) (v : Value) (rows : List (List α)) (hs : a.eval s = v) (hq : NestQ ok f w base e v rows) (hbase : base ≤ w.heap.size)
    (ad : Addr) (c : Nat) (ra : Option Addr) (l : List α) (rc : Nat) (hx : a.eval x = .slice (some ad) 1 c) (hc : w.cell? (ad.add 0) = some (.slice ra l.length rc)) (hl : rows.length + 1 ≤ 1000000)
    (hr1 : ra = none → rc = 0) (hr2 : l.length ≤ rc) (hr3 : l = [] ∨ ∃ b off, ra = some ⟨b, off, none⟩ ∧ some b ≠ v.ownBlock ∧ ok b ∧ CelAt f w b off l)
    (hK : ∀ g c' w', NestQ ok f w' base e (.slice (some ⟨g, 0, none⟩) (rows.length + 1) c') (rows ++ [l]) → w.grownBy w' v.ownBlock → (some g = v.ownBlock ∨ g = w.heap.size) → wpList P ops Q rest (a.put o.dst (.slice (some ⟨g, 0, none⟩) (rows.length + 1) c')) w') : wpList P ops Q (o :: rest) a w := by
  obtain ⟨vals, hown, hrows⟩ := hq
  refine wpList_append_own_at w hg s x t hop base e i (.slice none 0 0) 1 24 h1 h2 h3 h4 h5 rfl (by decide) v rows.length vals hs hown ad 1 c [.slice ra l.length rc] hx rfl ?_ ?_ (by unfold maxLen; omega) (by omega) hbase ?_
  · intro j u hj
    match j, hj with
    | 0, hj => simp at hj; subst hj; exact hc
  · intro u hu; simp at hu; subst hu; rfl
  · intro v' w' hown' hgr _ hblk
    have hvl := hown.1
    rw [Nat.mul_one] at hvl
    rcases hown'.2 with ⟨_, h0⟩ | ⟨g, cap, cur, rfl, hbg, hg', hn, hm, hsz, ht⟩
    · omega
    refine hK g cap w' ⟨vals ++ [.slice ra l.length rc], ?_, fun i hi => ?_⟩ hgr ?_
    · rw [List.length_append, List.length_singleton]; exact hown'
    · have hkeep : ∀ b off l', some b ≠ v.ownBlock → CelAt f w b off l' → (some b ≠ (Value.slice (some ⟨g, 0, none⟩) (rows.length + 1) cap).ownBlock ∧ CelAt f w' b off l') := by
        intro b off l' hne hat
        have hlt := hat.lt
        have hb : w'.heap[b]? = w.heap[b]? := hgr.block b hlt hne
        refine ⟨?_, Nat.lt_of_lt_of_le hlt hgr.size, fun j hj => ?_⟩
        · rcases hblk with q | q
          · rw [q]; exact hne
          · rw [q]; intro e; cases e; omega
        · rw [World.cell?_of_block (w := w) hb]; exact hat.at_ j hj
      by_cases hil : i < rows.length
      · obtain ⟨a', c2, q1, q2, q3, q4⟩ := hrows i hil
        refine ⟨a', c2, ?_, q2, ?_, ?_⟩
        · rw [List.getElem?_append_left (by omega), List.getElem_append_left hil]; exact q1
        · rw [List.getElem_append_left hil]; exact q3
        · rw [List.getElem_append_left hil]
          rcases q4 with q | ⟨b, off, r1, r2, r3, r4⟩
          · exact Or.inl q
          · obtain ⟨k1, k2⟩ := hkeep b off _ r2 r4
            exact Or.inr ⟨b, off, r1, k1, r3, k2⟩
      · have hie : i = rows.length := by simp at hi; omega
        subst hie
        refine ⟨ra, rc, ?_, hr1, ?_, ?_⟩
        · rw [List.getElem?_append_right (by omega), hvl]; simp
        · simpa using hr2
        · rw [List.getElem_concat_length (by rfl)]
          rcases hr3 with q | ⟨b, off, r1, r2, r3, r4⟩
          · exact Or.inl q
          · obtain ⟨k1, k2⟩ := hkeep b off _ r2 r4
            exact Or.inr ⟨b, off, r1, k1, r3, k2⟩
    · rcases hblk with q | q
      · exact Or.inl q
      · right; injection q
end Go.Proofs.Ythacjdlohmkpoaa

namespace Go.Proofs.Ythacjdlohmkpoaa
open Go.RowKit

abbrev tb0 : Array Value := #[.string ⟨#[]⟩, .slice none 0 0, .slice none 0 0, .slice none 0 0]
/-- How far the first statement of Copy has come. -/
structure CpI (t : M.Tb) (w0 : World) (N : Nat) (b2 b5 b6 b9 b10 b11 b12 : Bool) (x3 x7 x10 x11 x14 x15 s r : Value) (B : Nat) (w : World) : Prop where
  fl : (b5 = true → b2 = true) ∧ (b9 = true → b6 = true ∧ b5 = true) ∧ (b10 = true → b5 = true ∧ b9 = true) ∧ (b12 = true → b10 = true ∧ b11 = true)
  nz : N ≤ w0.heap.size
  below : Below N w0 w
  s1 : b2 = true → b5 = false → x7 = s ∧ s ≠ .slice none 0 0 ∧ w.ownsRow N 9 1 s ([] : List ByteArray).length (([] : List ByteArray).map .string)
  s2 : b5 = true → x10 = s ∧ s ≠ .slice none 0 0 ∧ w.ownsRow N 9 1 s t.elems.length (t.elems.map .string)
  r1 : b6 = true → b9 = false → x11 = r ∧ r ≠ .slice none 0 0 ∧ w.ownsRow N 4 1 r ([] : List Bool).length (([] : List Bool).map .bool)
  r2 : b9 = true → x14 = r ∧ r ≠ .slice none 0 0 ∧ w.ownsRow N 4 1 r t.wrong.length (t.wrong.map .bool)
  k : b10 = true → x15 = .agg #[.string t.name, s, .slice none 0 0, r]
  bx : b11 = true → x3 = .pointer (some ⟨B, 0, none⟩) ∧ N ≤ B ∧ w.heap[B]? = some (.cells (if b12 then #[.string t.name, s, .slice none 0 0, r] else tb0) 26 (0, 0))
  d1 : b2 = true → b6 = true → s.ownBlock ≠ r.ownBlock
  d2 : b2 = true → b11 = true → s.ownBlock ≠ some B
  d3 : b6 = true → b11 = true → r.ownBlock ≠ some B
theorem own_blk {w : World} {base : Nat} {e : TypeId} {size : Nat} {v : Value} {n : Nat} {xs : List Value} (h : w.ownsRow base e size v n xs) (hn : v ≠ .slice none 0 0) : ∃ g, v.ownBlock = some g ∧ base ≤ g ∧ g < w.heap.size := by
  rcases h.2 with ⟨h1, _⟩ | ⟨g, cap, cur, e1, _⟩
  · exact absurd h1 hn
  · have : v.ownBlock = some g := by rw [e1]; rfl
    exact ⟨g, this, own_lt h this⟩
theorem heap_lt {w : World} {B : Nat} {o : Obj} (h : w.heap[B]? = some o) : B < w.heap.size := by
  rcases Nat.lt_or_ge B w.heap.size with q | q
  · exact q
  · rw [Array.getElem?_eq_none q] at h; cases h
theorem alloc_at (w : World) (o : Obj) {k : Nat} (h : k < w.heap.size) : (w.alloc o).heap[k]? = w.heap[k]? := (below1 w o).block k h
section
variable {t : M.Tb} {w0 : World} {N : Nat} {b2 b5 b6 b9 b10 b11 b12 : Bool} {x3 x7 x10 x11 x14 x15 s r : Value} {B : Nat} {w : World}
theorem CpI.str_lt (h : CpI t w0 N b2 b5 b6 b9 b10 b11 b12 x3 x7 x10 x11 x14 x15 s r B w) (h2 : b2 = true) : ∃ g, s.ownBlock = some g ∧ N ≤ g ∧ g < w.heap.size := by
  cases hb : b5 with
  | true => obtain ⟨_, k1, k2⟩ := h.s2 hb; exact own_blk k2 k1
  | false => obtain ⟨_, k1, k2⟩ := h.s1 h2 hb; exact own_blk k2 k1
theorem CpI.row_lt (h : CpI t w0 N b2 b5 b6 b9 b10 b11 b12 x3 x7 x10 x11 x14 x15 s r B w) (h6 : b6 = true) : ∃ g, r.ownBlock = some g ∧ N ≤ g ∧ g < w.heap.size := by
  cases hb : b9 with
  | true => obtain ⟨_, k1, k2⟩ := h.r2 hb; exact own_blk k2 k1
  | false => obtain ⟨_, k1, k2⟩ := h.r1 h6 hb; exact own_blk k2 k1
theorem own_slice' {v : Value} {w : World} {n : Nat} {e : TypeId} {xs : List Value} {b : Nat} (h : w.ownsRow b e 1 v n xs) : ∃ a c, v = .slice a n c := own_slice h
theorem CpI.str (h : CpI t w0 N b2 b5 b6 b9 true b11 b12 x3 x7 x10 x11 x14 x15 s r B w) : w.ownsRow N 9 1 s t.elems.length (t.elems.map .string) := (h.s2 (h.fl.2.2.1 rfl).1).2.2
theorem CpI.row (h : CpI t w0 N b2 b5 b6 b9 true b11 b12 x3 x7 x10 x11 x14 x15 s r B w) : w.ownsRow N 4 1 r t.wrong.length (t.wrong.map .bool) := (h.r2 (h.fl.2.2.1 rfl).2).2.2
/-- Behind a step that leaves the blocks as they are. -/
theorem CpI.same (h : CpI t w0 N b2 b5 b6 b9 b10 b11 b12 x3 x7 x10 x11 x14 x15 s r B w) {w' : World} (hB : Below N w0 w') (hk : ∀ k, k < w.heap.size → w'.heap[k]? = w.heap[k]?) : CpI t w0 N b2 b5 b6 b9 b10 b11 b12 x3 x7 x10 x11 x14 x15 s r B w' := by
  refine ⟨h.fl, h.nz, hB, fun q q' => ?_, fun q => ?_, fun q q' => ?_, fun q => ?_, h.k, fun q => ?_, h.d1, h.d2, h.d3⟩
  · obtain ⟨a, b, c⟩ := h.s1 q q'; exact ⟨a, b, own_same c fun g hg => hk g (own_lt c hg).2⟩
  · obtain ⟨a, b, c⟩ := h.s2 q; exact ⟨a, b, own_same c fun g hg => hk g (own_lt c hg).2⟩
  · obtain ⟨a, b, c⟩ := h.r1 q q'; exact ⟨a, b, own_same c fun g hg => hk g (own_lt c hg).2⟩
  · obtain ⟨a, b, c⟩ := h.r2 q; exact ⟨a, b, own_same c fun g hg => hk g (own_lt c hg).2⟩
  · obtain ⟨a, b, c⟩ := h.bx q; exact ⟨a, b, by rw [hk B (heap_lt c)]; exact c⟩
theorem CpI.le (h : CpI t w0 N b2 b5 b6 b9 b10 b11 b12 x3 x7 x10 x11 x14 x15 s r B w) : N ≤ w.heap.size := Nat.le_trans h.nz h.below.size
theorem CpI.step2 (h : CpI t w0 N false b5 b6 b9 b10 b11 b12 x3 x7 x10 x11 x14 x15 s r B w) :
    CpI t w0 N true b5 b6 b9 b10 b11 b12 x3 (.slice (some ⟨w.heap.size, 0, none⟩) 0 0) x10 x11 x14 x15 (.slice (some ⟨w.heap.size, 0, none⟩) 0 0) r B (w.alloc (.cells #[] 9)) := by
  have h5 : b5 = false := by cases b5; rfl; exact absurd (h.fl.1 rfl) (by simp)
  subst h5
  have h9 : b9 = false := by cases b9; rfl; exact absurd (h.fl.2.1 rfl).2 (by simp)
  subst h9
  have h10 : b10 = false := by cases b10; rfl; exact absurd (h.fl.2.2.1 rfl).1 (by simp)
  subst h10
  have h12 : b12 = false := by cases b12; rfl; exact absurd (h.fl.2.2.2 rfl).1 (by simp)
  subst h12
  refine ⟨⟨by simp, by simp, by simp, by simp⟩, h.nz, h.below.alloc h.le _, fun _ _ => ⟨rfl, by simp, own_made w N _ 1 h.le⟩, by simp, fun q q' => ?_, by simp, by simp, fun q => ?_, fun _ q e => ?_, fun _ q e => ?_, h.d3⟩
  · obtain ⟨a, b, c⟩ := h.r1 q q'; exact ⟨a, b, own_same c fun g hg => alloc_at _ _ (own_lt c hg).2⟩
  · obtain ⟨a, b, c⟩ := h.bx q; exact ⟨a, b, by rw [alloc_at _ _ (heap_lt c)]; exact c⟩
  · obtain ⟨g, e1, _, h3⟩ := h.row_lt q
    rw [e1] at e
    have : w.heap.size = g := by injection e
    omega
  · have h3 := heap_lt (h.bx q).2.2
    have : w.heap.size = B := by injection e
    omega
theorem CpI.step6 (h : CpI t w0 N b2 b5 false b9 b10 b11 b12 x3 x7 x10 x11 x14 x15 s r B w) :
    CpI t w0 N b2 b5 true b9 b10 b11 b12 x3 x7 x10 (.slice (some ⟨w.heap.size, 0, none⟩) 0 0) x14 x15 s (.slice (some ⟨w.heap.size, 0, none⟩) 0 0) B (w.alloc (.cells #[] 4)) := by
  have h9 : b9 = false := by cases b9; rfl; exact absurd (h.fl.2.1 rfl).1 (by simp)
  subst h9
  have h10 : b10 = false := by cases b10; rfl; exact absurd (h.fl.2.2.1 rfl).2 (by simp)
  subst h10
  have h12 : b12 = false := by cases b12; rfl; exact absurd (h.fl.2.2.2 rfl).1 (by simp)
  subst h12
  refine ⟨⟨h.fl.1, by simp, by simp, by simp⟩, h.nz, h.below.alloc h.le _, fun q q' => ?_, fun q => ?_, fun _ _ => ⟨rfl, by simp, own_made w N _ 1 h.le⟩, by simp, by simp, fun q => ?_, fun q _ e => ?_, h.d2, fun _ q e => ?_⟩
  · obtain ⟨a, b, c⟩ := h.s1 q q'; exact ⟨a, b, own_same c fun g hg => alloc_at _ _ (own_lt c hg).2⟩
  · obtain ⟨a, b, c⟩ := h.s2 q; exact ⟨a, b, own_same c fun g hg => alloc_at _ _ (own_lt c hg).2⟩
  · obtain ⟨a, b, c⟩ := h.bx q; exact ⟨a, b, by rw [alloc_at _ _ (heap_lt c)]; exact c⟩
  · obtain ⟨g, e1, _, h3⟩ := h.str_lt q
    rw [e1] at e
    have : g = w.heap.size := by injection e
    omega
  · have h3 := heap_lt (h.bx q).2.2
    have : w.heap.size = B := by injection e
    omega
theorem CpI.step11 (h : CpI t w0 N b2 b5 b6 b9 b10 false b12 x3 x7 x10 x11 x14 x15 s r B w) :
    CpI t w0 N b2 b5 b6 b9 b10 true b12 (.pointer (some ⟨w.heap.size, 0, none⟩)) x7 x10 x11 x14 x15 s r w.heap.size (w.alloc (.cells tb0 26)) := by
  have h12 : b12 = false := by cases b12; rfl; exact absurd (h.fl.2.2.2 rfl).2 (by simp)
  subst h12
  refine ⟨⟨h.fl.1, h.fl.2.1, h.fl.2.2.1, by simp⟩, h.nz, h.below.alloc h.le _, fun q q' => ?_, fun q => ?_, fun q q' => ?_, fun q => ?_, h.k, fun _ => ⟨rfl, h.le, box_new w tb0 _⟩, h.d1, fun q _ e => ?_, fun q _ e => ?_⟩
  · obtain ⟨a, b, c⟩ := h.s1 q q'; exact ⟨a, b, own_same c fun g hg => alloc_at _ _ (own_lt c hg).2⟩
  · obtain ⟨a, b, c⟩ := h.s2 q; exact ⟨a, b, own_same c fun g hg => alloc_at _ _ (own_lt c hg).2⟩
  · obtain ⟨a, b, c⟩ := h.r1 q q'; exact ⟨a, b, own_same c fun g hg => alloc_at _ _ (own_lt c hg).2⟩
  · obtain ⟨a, b, c⟩ := h.r2 q; exact ⟨a, b, own_same c fun g hg => alloc_at _ _ (own_lt c hg).2⟩
  · obtain ⟨g, e1, _, h3⟩ := h.str_lt q
    rw [e1] at e
    have : g = w.heap.size := by injection e
    omega
  · obtain ⟨g, e1, _, h3⟩ := h.row_lt q
    rw [e1] at e
    have : g = w.heap.size := by injection e
    omega
theorem CpI.step5 (h : CpI t w0 N true false b6 b9 b10 b11 b12 x3 x7 x10 x11 x14 x15 s r B w) {v : Value} {w' : World}
    (k1 : w'.ownsRow N 9 1 v t.elems.length (t.elems.map .string)) (k2 : w.grownBy w' s.ownBlock) (k3 : v.ownBlock = s.ownBlock ∨ v.ownBlock = some w.heap.size) (k4 : v ≠ .slice none 0 0) :
    CpI t w0 N true true b6 b9 b10 b11 b12 x3 x7 v x11 x14 x15 v r B w' := by
  have h9 : b9 = false := by cases b9; rfl; exact absurd (h.fl.2.1 rfl).2 (by simp)
  subst h9
  have h10 : b10 = false := by cases b10; rfl; exact absurd (h.fl.2.2.1 rfl).1 (by simp)
  subst h10
  have h12 : b12 = false := by cases b12; rfl; exact absurd (h.fl.2.2.2 rfl).1 (by simp)
  subst h12
  obtain ⟨g, e1, hg1, hg2⟩ := h.str_lt rfl
  refine ⟨⟨by simp, by simp, by simp, by simp⟩, h.nz, h.below.grown k2 h.le (fun k hk => by rw [e1] at hk; cases hk; exact hg1), by simp, fun _ => ⟨rfl, k4, k1⟩, fun q q' => ?_, by simp, by simp, fun q => ?_, fun _ q e => ?_, fun _ q e => ?_, h.d3⟩
  · obtain ⟨a, b, c⟩ := h.r1 q q'
    exact ⟨a, b, own_same c fun g' hg' => k2.block g' (own_lt c hg').2 (fun e => h.d1 rfl q (by rw [hg', ← e]))⟩
  · obtain ⟨a, b, c⟩ := h.bx q
    exact ⟨a, b, by rw [k2.block B (heap_lt c) (fun e => h.d2 rfl q e.symm)]; exact c⟩
  · rcases k3 with k3 | k3
    · exact h.d1 rfl q (by rw [← k3]; exact e)
    · obtain ⟨g', e2, _, h3⟩ := h.row_lt q
      rw [k3, e2] at e
      have : w.heap.size = g' := by injection e
      omega
  · rcases k3 with k3 | k3
    · exact h.d2 rfl q (by rw [← k3]; exact e)
    · have h3 := heap_lt (h.bx q).2.2
      rw [k3] at e
      have : w.heap.size = B := by injection e
      omega
theorem CpI.step9 (h : CpI t w0 N b2 b5 true false b10 b11 b12 x3 x7 x10 x11 x14 x15 s r B w) (h5 : b5 = true) {v : Value} {w' : World}
    (k1 : w'.ownsRow N 4 1 v t.wrong.length (t.wrong.map .bool)) (k2 : w.grownBy w' r.ownBlock) (k3 : v.ownBlock = r.ownBlock ∨ v.ownBlock = some w.heap.size) (k4 : v ≠ .slice none 0 0) :
    CpI t w0 N b2 b5 true true b10 b11 b12 x3 x7 x10 x11 v x15 s v B w' := by
  have h10 : b10 = false := by cases b10; rfl; exact absurd (h.fl.2.2.1 rfl).2 (by simp)
  subst h10
  have h12 : b12 = false := by cases b12; rfl; exact absurd (h.fl.2.2.2 rfl).1 (by simp)
  subst h12
  subst h5
  obtain rfl := h.fl.1 rfl
  obtain ⟨g, e1, hg1, hg2⟩ := h.row_lt rfl
  refine ⟨⟨by simp, by simp, by simp, by simp⟩, h.nz, h.below.grown k2 h.le (fun k hk => by rw [e1] at hk; cases hk; exact hg1), by simp, fun q => ?_, by simp, fun _ => ⟨rfl, k4, k1⟩, by simp, fun q => ?_, fun q _ e => ?_, h.d2, fun _ q e => ?_⟩
  · obtain ⟨a, b, c⟩ := h.s2 q
    exact ⟨a, b, own_same c fun g' hg' => k2.block g' (own_lt c hg').2 (fun e => h.d1 rfl rfl (by rw [hg', ← e]))⟩
  · obtain ⟨a, b, c⟩ := h.bx q
    exact ⟨a, b, by rw [k2.block B (heap_lt c) (fun e => h.d3 rfl q e.symm)]; exact c⟩
  · rcases k3 with k3 | k3
    · exact h.d1 rfl rfl (by rw [← k3]; exact e)
    · obtain ⟨g', e2, _, h3⟩ := h.str_lt rfl
      rw [k3, e2] at e
      have : g' = w.heap.size := by injection e
      omega
  · rcases k3 with k3 | k3
    · exact h.d3 rfl q (by rw [← k3]; exact e)
    · have h3 := heap_lt (h.bx q).2.2
      rw [k3] at e
      have : w.heap.size = B := by injection e
      omega
theorem CpI.step10 (h : CpI t w0 N b2 b5 b6 b9 false b11 b12 x3 x7 x10 x11 x14 x15 s r B w) (h5 : b5 = true) (h9 : b9 = true) : CpI t w0 N b2 b5 b6 b9 true b11 b12 x3 x7 x10 x11 x14 (.agg #[.string t.name, x10, .slice none 0 0, x14]) s r B w :=
  ⟨⟨h.fl.1, h.fl.2.1, fun _ => ⟨h5, h9⟩, fun q => ⟨rfl, (h.fl.2.2.2 q).2⟩⟩, h.nz, h.below, h.s1, h.s2, h.r1, h.r2, fun _ => by rw [(h.s2 h5).1, (h.r2 h9).1], h.bx, h.d1, h.d2, h.d3⟩
theorem CpI.step12 (h : CpI t w0 N b2 b5 b6 b9 true true false x3 x7 x10 x11 x14 x15 s r B w) {w' : World} (k1 : w'.heap[B]? = some (.cells #[.string t.name, s, .slice none 0 0, r] 26 (0, 0))) (k2 : w.grownBy w' (some B)) :
    CpI t w0 N b2 b5 b6 b9 true true true x3 x7 x10 x11 x14 x15 s r B w' := by
  obtain ⟨h5, h9⟩ := h.fl.2.2.1 rfl
  subst h5 h9
  obtain rfl := h.fl.1 rfl
  obtain ⟨rfl, _⟩ := h.fl.2.1 rfl
  obtain ⟨e3, hb, _⟩ := h.bx rfl
  refine ⟨⟨by simp, by simp, by simp, by simp⟩, h.nz, h.below.grown k2 h.le (fun k hk => by cases hk; exact hb), by simp, fun q => ?_, by simp, fun q => ?_, h.k, fun q => ⟨e3, hb, k1⟩, h.d1, h.d2, h.d3⟩
  · obtain ⟨a, b, c⟩ := h.s2 q
    exact ⟨a, b, own_same c fun g' hg' => k2.block g' (own_lt c hg').2 (fun e => h.d2 rfl rfl (by rw [hg', ← e]))⟩
  · obtain ⟨a, b, c⟩ := h.r2 q
    exact ⟨a, b, own_same c fun g' hg' => k2.block g' (own_lt c hg').2 (fun e => h.d3 rfl rfl (by rw [hg', ← e]))⟩
end

/-- How far the copy's rows have come: vb the value in its box, v the list of them. -/
structure CpL (t : M.Tb) (w0 : World) (N : Nat) (s r : Value) (B : Nat) (rows : List (List Int)) (vb v : Value) (w : World) : Prop where
  nz : N ≤ w0.heap.size
  below : Below N w0 w
  sow : w.ownsRow N 9 1 s t.elems.length (t.elems.map .string)
  row : w.ownsRow N 4 1 r t.wrong.length (t.wrong.map .bool)
  hB : N ≤ B
  bx : w.heap[B]? = some (.cells #[.string t.name, s, vb, r] 26 (0, 0))
  d2 : s.ownBlock ≠ some B
  d3 : r.ownBlock ≠ some B
  nst : NestQ (fun b => b ≠ B ∧ N ≤ b) (Value.int .i64) w N 36 v rows
  e1 : ∀ g, v.ownBlock = some g → some g ≠ s.ownBlock ∧ some g ≠ r.ownBlock ∧ g ≠ B
theorem CpI.done {t : M.Tb} {w0 : World} {N : Nat} {x3 x7 x10 x11 x14 x15 s r : Value} {B : Nat} {w : World} (h : CpI t w0 N true true true true true true true x3 x7 x10 x11 x14 x15 s r B w) : CpL t w0 N s r B [] (.slice none 0 0) (.slice none 0 0) w :=
  ⟨h.nz, h.below, (h.s2 rfl).2.2, (h.r2 rfl).2.2, (h.bx rfl).2.1, (h.bx rfl).2.2, h.d2 rfl rfl, h.d3 rfl rfl, NestQ.nil _ _ _ _ _, fun g hg => by cases hg⟩
section
variable {t : M.Tb} {w0 : World} {N : Nat} {s r : Value} {B : Nat} {rows : List (List Int)} {vb v : Value} {w w' : World}
theorem nest_lt {α : Type} {ok : Nat → Prop} {f : α → Value} {w : World} {base : Nat} {e : TypeId} {v : Value} {rows : List (List α)} (h : NestQ ok f w base e v rows) {g : Nat} (hg : v.ownBlock = some g) : base ≤ g ∧ g < w.heap.size := by
  obtain ⟨_, h1, _⟩ := h
  exact own_lt h1 hg
theorem CpL.le (h : CpL t w0 N s r B rows vb v w) : N ≤ w.heap.size := Nat.le_trans h.nz h.below.size
theorem CpL.keep (h : CpL t w0 N s r B rows vb v w) (hsz : w.heap.size ≤ w'.heap.size) (hB : Below N w0 w') (hk : ∀ k, k < w.heap.size → w'.heap[k]? = w.heap[k]?) : CpL t w0 N s r B rows vb v w' :=
  ⟨h.nz, hB, own_same h.sow fun g hg => hk g (own_lt h.sow hg).2, own_same h.row fun g hg => hk g (own_lt h.row hg).2, h.hB, by rw [hk B (heap_lt h.bx)]; exact h.bx, h.d2, h.d3,
    h.nst.kept hsz (fun g hg => hk g (nest_lt h.nst hg).2) (fun b hb _ => hk b hb), h.e1⟩
/-- Behind what lays new blocks alone. -/
theorem CpL.new (h : CpL t w0 N s r B rows vb v w) (hb : Below w.heap.size w w') : CpL t w0 N s r B rows vb v w' := h.keep hb.size (h.below.trans (hb.mono h.le)) hb.block
theorem CpL.push (h : CpL t w0 N s r B rows vb v w) {l : List Int} {g n c : Nat} (hn : NestQ (fun b => b ≠ B ∧ N ≤ b) (Value.int .i64) w' N 36 (.slice (some ⟨g, 0, none⟩) n c) (rows ++ [l])) (hg : w.grownBy w' v.ownBlock) (hb : some g = v.ownBlock ∨ g = w.heap.size) :
    CpL t w0 N s r B (rows ++ [l]) vb (.slice (some ⟨g, 0, none⟩) n c) w' := by
  have hk : ∀ k, k < w.heap.size → some k ≠ v.ownBlock → w'.heap[k]? = w.heap[k]? := hg.block
  refine ⟨h.nz, h.below.grown hg h.le (fun k hk => (nest_lt h.nst hk).1), own_same h.sow fun g' hg' => hk g' (own_lt h.sow hg').2 (fun e => (h.e1 g' e.symm).1 hg'.symm), own_same h.row fun g' hg' => hk g' (own_lt h.row hg').2 (fun e => (h.e1 g' e.symm).2.1 hg'.symm),
    h.hB, by rw [hk B (heap_lt h.bx) (fun e => (h.e1 B e.symm).2.2 rfl)]; exact h.bx, h.d2, h.d3, hn, fun g' hg' => ?_⟩
  have e : g = g' := by injection hg'
  subst e
  rcases hb with q | q
  · exact h.e1 g q.symm
  · refine ⟨fun e => ?_, fun e => ?_, fun e => ?_⟩
    · have := (own_lt h.sow e.symm).2; omega
    · have := (own_lt h.row e.symm).2; omega
    · have := heap_lt h.bx; omega
theorem CpL.set (h : CpL t w0 N s r B rows vb v w) : CpL t w0 N s r B rows v v (w.setCell ⟨B, 2, none⟩ v) := by
  have hg := grown_set w B 2 v
  refine ⟨h.nz, h.below.grown hg h.le (fun k hk => by cases hk; exact h.hB), own_same h.sow fun g hg' => hg.block g (own_lt h.sow hg').2 (fun e => h.d2 (by rw [hg', e])), own_same h.row fun g hg' => hg.block g (own_lt h.row hg').2 (fun e => h.d3 (by rw [hg', e])),
    h.hB, by rw [heap_set_same h.bx]; rfl, h.d2, h.d3, h.nst.kept hg.size (fun g hg' => hg.block g (nest_lt h.nst hg').2 (fun e => (h.e1 g hg').2.2 (by injection e))) (fun b hb hok => hg.block b hb (fun e => hok.1 (by injection e))), h.e1⟩
theorem own_cel_at {α : Type} {f : α → Value} {w : World} {base : Nat} {e : TypeId} {ea : Option Addr} {ec : Nat} {l : List α} (h : w.ownsRow base e 1 (.slice ea l.length ec) l.length (l.map f)) : CelSl f w ea l := by
  obtain ⟨a, c, e, _, _, q⟩ := own_cel h
  have e1 : ea = a := by injection e
  subst e1
  exact q
theorem nest_row_at {w : World} {base : Nat} {e : TypeId} {g n c : Nat} {rows : List (List Int)} (h : NestOwn (Value.int .i64) w base e (.slice (some ⟨g, 0, none⟩) n c) rows) : RowAt w g 0 rows := by
  rcases h.lies with ⟨h, _⟩ | ⟨g', c', h, _, _, q⟩
  · cases h
  · have e1 : g = g' := by injection h with e; injection e with e; injection e
    subst e1
    exact q.row
theorem CpL.table (h : CpL t w0 N s r B t.above v v w) : ∃ p', w.heap[B]? = some (.cells (tbA t p') 26 (0, 0)) ∧ ∀ w', w.heap.size ≤ w'.heap.size → (∀ g, N ≤ g → g < w.heap.size → w'.heap[g]? = w.heap[g]?) → TbIn w' t p' := by
  have hs := h.sow
  have hr := h.row
  have hn := h.nst
  have hbx := h.bx
  obtain ⟨ea, ec, rfl, en, el, _⟩ := own_cel h.sow
  obtain ⟨wa, wc, rfl, wn, wl, _⟩ := own_cel h.row
  rcases h.nst.own.lies with ⟨rfl, h0⟩ | ⟨g, c, rfl, hl, _, hat⟩
  · refine ⟨⟨ea, ec, none, 0, wa, wc⟩, by rw [hbx]; simp [h0], fun w' hsz hk => ⟨?_, Or.inl h0, ?_, en, fun _ => rfl, wn, el, by rw [h0]; exact Nat.le_refl 0, wl⟩⟩
    · exact own_cel_at (own_same hs fun g hg => hk g (own_lt hs hg).1 (own_lt hs hg).2)
    · exact own_cel_at (own_same hr fun g hg => hk g (own_lt hr hg).1 (own_lt hr hg).2)
  · refine ⟨⟨ea, ec, some ⟨g, 0, none⟩, c, wa, wc⟩, hbx, fun w' hsz hk => ⟨?_, Or.inr ⟨g, 0, rfl, ?_⟩, ?_, en, fun h => (by cases h), wn, el, hl, wl⟩⟩
    · exact own_cel_at (own_same hs fun g hg => hk g (own_lt hs hg).1 (own_lt hs hg).2)
    · exact nest_row_at (hn.kept hsz (fun g hg => hk g (nest_lt hn hg).1 (nest_lt hn hg).2) (fun b hb hok => hk b hok.2 hb)).own
    · exact own_cel_at (own_same hr fun g hg => hk g (own_lt hr hg).1 (own_lt hr hg).2)
end
end Go.Proofs.Ythacjdlohmkpoaa

namespace Go.Proofs.Ythacjdlohmkpoaa
open Go.RowKit

abbrev intCs (l : List Int) : List Value := l.map (Value.int .i64)
structure CpJ (t : M.Tb) (w0 : World) (N : Nat) (s r : Value) (B : Nat) (rows : List (List Int)) (vb : Value) (l : List Int) (wr : World) (b1 b2 b8 b9 b10 b11 b12 : Bool) (x24 x25 x31 x32 x33 x34 : Value) (W : World) : Prop where
  fl : (b8 = true → b2 = true) ∧ (b9 = true → b8 = true) ∧ (b10 = true → b9 = true ∧ b1 = true) ∧ (b11 = true → b10 = true) ∧ (b12 = true → b11 = true)
  at_ : CpL t w0 N s r B rows vb vb wr
  bel : b10 = false → Below wr.heap.size wr W
  k1 : b1 = true → x24 = vb
  k2 : b2 = true → b8 = false → x25 ≠ .slice none 0 0 ∧ W.ownsRow wr.heap.size 3 1 x25 ([] : List Int).length (intCs [])
  k8 : b8 = true → b9 = false → W.ownsRow wr.heap.size 3 1 x31 l.length (intCs l)
  k9 : b9 = true → b10 = false → ∃ g ra rc, x32 = .slice (some ⟨g, 0, none⟩) 1 1 ∧ W.cell? ⟨g, 0, none⟩ = some (.slice ra l.length rc) ∧ (ra = none → rc = 0) ∧ l.length ≤ rc ∧ (l = [] ∨ ∃ b off, ra = some ⟨b, off, none⟩ ∧ wr.heap.size ≤ b ∧ CelAt (Value.int .i64) W b off l)
  k10 : b10 = true → b12 = false → CpL t w0 N s r B (rows ++ [l]) vb x33 W
  k11 : b11 = true → x34 = .pointer (some ⟨B, 2, none⟩)
  k12 : b12 = true → CpL t w0 N s r B (rows ++ [l]) x33 x33 W
section
variable {t : M.Tb} {w0 : World} {N : Nat} {s r : Value} {B : Nat} {rows : List (List Int)} {vb : Value} {l : List Int} {wr : World} {b1 b2 b8 b9 b10 b11 b12 : Bool} {x24 x25 x31 x32 x33 x34 : Value} {W : World}
theorem CpJ.below (h : CpJ t w0 N s r B rows vb l wr b1 b2 b8 b9 b10 b11 b12 x24 x25 x31 x32 x33 x34 W) : Below N w0 W := by
  cases hb : b10 with
  | false => exact (h.at_.new (h.bel hb)).below
  | true =>
    cases hc : b12 with
    | false => exact (h.k10 hb hc).below
    | true => exact (h.k12 hc).below
theorem CpJ.start (h : CpL t w0 N s r B rows vb vb wr) : CpJ t w0 N s r B rows vb l wr false false false false false false false x24 x25 x31 x32 x33 x34 wr :=
  ⟨⟨by simp, by simp, by simp, by simp, by simp⟩, h, fun _ => Below.refl _ _, by simp, by simp, by simp, by simp, by simp, by simp, by simp⟩
theorem CpJ.no10 (h : CpJ t w0 N s r B rows vb l wr b1 b2 b8 b9 b10 b11 b12 x24 x25 x31 x32 x33 x34 W) (h1 : b1 = false ∨ b9 = false) : b10 = false := by
  cases hb : b10 with
  | false => rfl
  | true =>
    obtain ⟨q1, q2⟩ := h.fl.2.2.1 hb
    rcases h1 with e | e
    · rw [e] at q2; cases q2
    · rw [e] at q1; cases q1
theorem CpJ.cell (h : CpJ t w0 N s r B rows vb l wr false b2 b8 b9 b10 b11 b12 x24 x25 x31 x32 x33 x34 W) : W.cell? ⟨B, 2, none⟩ = some vb := by
  rw [Lib.cell_of_heap (h.at_.new (h.bel (h.no10 (Or.inl rfl)))).bx]; rfl
theorem CpJ.step1 (h : CpJ t w0 N s r B rows vb l wr false b2 b8 b9 b10 b11 b12 x24 x25 x31 x32 x33 x34 W) : CpJ t w0 N s r B rows vb l wr true b2 b8 b9 b10 b11 b12 vb x25 x31 x32 x33 x34 W :=
  ⟨⟨h.fl.1, h.fl.2.1, fun q => ⟨(h.fl.2.2.1 q).1, rfl⟩, h.fl.2.2.2⟩, h.at_, h.bel, fun _ => rfl, h.k2, h.k8, h.k9, h.k10, h.k11, h.k12⟩
theorem CpJ.no8 (h : CpJ t w0 N s r B rows vb l wr b1 false b8 b9 b10 b11 b12 x24 x25 x31 x32 x33 x34 W) : b8 = false ∧ b9 = false ∧ b10 = false ∧ b11 = false ∧ b12 = false := by
  have h8 : b8 = false := by cases hb : b8; rfl; exact absurd (h.fl.1 hb) (by simp)
  have h9 : b9 = false := by cases hb : b9; rfl; exact absurd (h.fl.2.1 hb) (by simp [h8])
  have h10 : b10 = false := h.no10 (Or.inr h9)
  have h11 : b11 = false := by cases hb : b11; rfl; exact absurd (h.fl.2.2.2.1 hb) (by simp [h10])
  have h12 : b12 = false := by cases hb : b12; rfl; exact absurd (h.fl.2.2.2.2 hb) (by simp [h11])
  exact ⟨h8, h9, h10, h11, h12⟩
theorem CpJ.step2 (h : CpJ t w0 N s r B rows vb l wr b1 false b8 b9 b10 b11 b12 x24 x25 x31 x32 x33 x34 W) :
    CpJ t w0 N s r B rows vb l wr b1 true b8 b9 b10 b11 b12 x24 (.slice (some ⟨W.heap.size, 0, none⟩) 0 0) x31 x32 x33 x34 (W.alloc (.cells #[] 3)) := by
  obtain ⟨rfl, rfl, rfl, rfl, rfl⟩ := h.no8
  have hb := h.bel rfl
  exact ⟨⟨by simp, by simp, by simp, by simp, by simp⟩, h.at_, fun _ => belowA hb _, h.k1, fun _ _ => ⟨by simp, own_made W wr.heap.size _ 1 hb.size⟩, by simp, by simp, by simp, by simp, by simp⟩
theorem CpJ.no9 (h : CpJ t w0 N s r B rows vb l wr b1 b2 false b9 b10 b11 b12 x24 x25 x31 x32 x33 x34 W) : b9 = false ∧ b10 = false ∧ b11 = false ∧ b12 = false := by
  have h9 : b9 = false := by cases hb : b9; rfl; exact absurd (h.fl.2.1 hb) (by simp)
  have h10 : b10 = false := h.no10 (Or.inr h9)
  have h11 : b11 = false := by cases hb : b11; rfl; exact absurd (h.fl.2.2.2.1 hb) (by simp [h10])
  have h12 : b12 = false := by cases hb : b12; rfl; exact absurd (h.fl.2.2.2.2 hb) (by simp [h11])
  exact ⟨h9, h10, h11, h12⟩
theorem CpJ.step8 (h : CpJ t w0 N s r B rows vb l wr b1 true false b9 b10 b11 b12 x24 x25 x31 x32 x33 x34 W) {v : Value} {w' : World} (q1 : w'.ownsRow wr.heap.size 3 1 v ([] ++ l).length (([] ++ l).map (Value.int .i64))) (q2 : W.grownBy w' x25.ownBlock) :
    CpJ t w0 N s r B rows vb l wr b1 true true b9 b10 b11 b12 x24 x25 v x32 x33 x34 w' := by
  obtain ⟨rfl, rfl, rfl, rfl⟩ := h.no9
  have hb := h.bel rfl
  obtain ⟨_, k2⟩ := h.k2 rfl rfl
  exact ⟨⟨by simp, by simp, by simp, by simp, by simp⟩, h.at_, fun _ => hb.grown q2 hb.size (fun g hg => (own_lt k2 hg).1), h.k1, by simp, fun _ _ => q1, by simp, by simp, by simp, by simp⟩
theorem CpJ.no10' (h : CpJ t w0 N s r B rows vb l wr b1 b2 b8 false b10 b11 b12 x24 x25 x31 x32 x33 x34 W) : b10 = false ∧ b11 = false ∧ b12 = false := by
  have h10 : b10 = false := h.no10 (Or.inr rfl)
  have h11 : b11 = false := by cases hb : b11; rfl; exact absurd (h.fl.2.2.2.1 hb) (by simp [h10])
  have h12 : b12 = false := by cases hb : b12; rfl; exact absurd (h.fl.2.2.2.2 hb) (by simp [h11])
  exact ⟨h10, h11, h12⟩
theorem CpJ.step9 (h : CpJ t w0 N s r B rows vb l wr b1 b2 true false b10 b11 b12 x24 x25 x31 x32 x33 x34 W) :
    CpJ t w0 N s r B rows vb l wr b1 b2 true true b10 b11 b12 x24 x25 x31 (.slice (some ⟨W.heap.size, 0, none⟩) 1 1) x33 x34 (W.alloc (.cells #[x31] 36)) := by
  obtain ⟨rfl, rfl, rfl⟩ := h.no10'
  have hb := h.bel rfl
  have k8 := h.k8 rfl rfl
  have hlow := fun g (hg : x31.ownBlock = some g) => (own_lt k8 hg).1
  obtain ⟨ra, rc, rfl, q1, q2, q3⟩ := own_cel k8
  refine ⟨⟨h.fl.1, by simp, by simp, by simp, by simp⟩, h.at_, fun _ => belowA hb _, h.k1, by simp, by simp, fun _ _ => ⟨W.heap.size, ra, rc, rfl, World.cell?_alloc_at _ _ _ _ rfl, q1, q2, ?_⟩, by simp, by simp, by simp⟩
  rcases q3 with q | ⟨b, off, e, hc⟩
  · exact Or.inl q
  · exact Or.inr ⟨b, off, e, hlow b (by rw [e]; rfl), hc.below (below1 _ _)⟩
theorem CpJ.no11 (h : CpJ t w0 N s r B rows vb l wr b1 b2 b8 b9 false b11 b12 x24 x25 x31 x32 x33 x34 W) : b11 = false ∧ b12 = false := by
  have h11 : b11 = false := by cases hb : b11; rfl; exact absurd (h.fl.2.2.2.1 hb) (by simp)
  have h12 : b12 = false := by cases hb : b12; rfl; exact absurd (h.fl.2.2.2.2 hb) (by simp [h11])
  exact ⟨h11, h12⟩
/-- What the second append of a round wants. -/
theorem CpJ.for10 (h : CpJ t w0 N s r B rows vb l wr true b2 b8 true false b11 b12 x24 x25 x31 x32 x33 x34 W) :
    x24 = vb ∧ NestQ (fun b => b ≠ B ∧ N ≤ b) (Value.int .i64) W N 36 vb rows ∧ N ≤ W.heap.size ∧ ∃ g ra rc, x32 = .slice (some ⟨g, 0, none⟩) 1 1 ∧ W.cell? ⟨g, 0, none⟩ = some (.slice ra l.length rc) ∧ (ra = none → rc = 0) ∧ l.length ≤ rc ∧ (l = [] ∨ ∃ b off, ra = some ⟨b, off, none⟩ ∧ some b ≠ vb.ownBlock ∧ (b ≠ B ∧ N ≤ b) ∧ CelAt (Value.int .i64) W b off l) := by
  have hb := h.bel rfl
  have hL := h.at_.new hb
  obtain ⟨g, ra, rc, e, q1, q2, q3, q4⟩ := h.k9 rfl rfl
  refine ⟨h.k1 rfl, hL.nst, hL.le, g, ra, rc, e, q1, q2, q3, ?_⟩
  rcases q4 with q | ⟨b, off, e, hlo, hc⟩
  · exact Or.inl q
  · refine Or.inr ⟨b, off, e, fun e' => ?_, ⟨fun e' => ?_, Nat.le_trans h.at_.le hlo⟩, hc⟩
    · have := (nest_lt h.at_.nst e'.symm).2; omega
    · have := heap_lt h.at_.bx; omega
theorem CpJ.step10 (h : CpJ t w0 N s r B rows vb l wr true b2 b8 true false b11 b12 x24 x25 x31 x32 x33 x34 W) {g n c : Nat} {w' : World} (hn : NestQ (fun b => b ≠ B ∧ N ≤ b) (Value.int .i64) w' N 36 (.slice (some ⟨g, 0, none⟩) n c) (rows ++ [l])) (hg : W.grownBy w' vb.ownBlock) (hb : some g = vb.ownBlock ∨ g = W.heap.size) :
    CpJ t w0 N s r B rows vb l wr true b2 b8 true true b11 b12 x24 x25 x31 x32 (.slice (some ⟨g, 0, none⟩) n c) x34 w' := by
  obtain ⟨rfl, rfl⟩ := h.no11
  exact ⟨⟨h.fl.1, h.fl.2.1, by simp, by simp, by simp⟩, h.at_, by simp, h.k1, fun q q' => absurd (h.fl.2.1 rfl) (by simp [q']), by simp, by simp, fun _ _ => (h.at_.new (h.bel rfl)).push hn hg hb, by simp, by simp⟩
theorem CpJ.step11 (h : CpJ t w0 N s r B rows vb l wr b1 b2 b8 b9 true false b12 x24 x25 x31 x32 x33 x34 W) : CpJ t w0 N s r B rows vb l wr b1 b2 b8 b9 true true b12 x24 x25 x31 x32 x33 (.pointer (some ⟨B, 2, none⟩)) W :=
  ⟨⟨h.fl.1, h.fl.2.1, h.fl.2.2.1, by simp, by simp⟩, h.at_, h.bel, h.k1, h.k2, h.k8, h.k9, h.k10, fun _ => rfl, h.k12⟩
theorem CpJ.for12 (h : CpJ t w0 N s r B rows vb l wr b1 b2 b8 b9 true true false x24 x25 x31 x32 x33 x34 W) : x34 = .pointer (some ⟨B, 2, none⟩) ∧ W.cell? ⟨B, 2, none⟩ = some vb ∧ W.frozen? ⟨B, 2, none⟩ = false ∧ ∃ a n c, x33 = .slice a n c := by
  have hL := h.k10 rfl rfl
  obtain ⟨a, c, e⟩ := hL.nst.slice
  exact ⟨h.k11 rfl, by rw [Lib.cell_of_heap hL.bx]; rfl, by simp [World.frozen?, hL.bx], a, _, c, e⟩
theorem CpJ.step12 (h : CpJ t w0 N s r B rows vb l wr b1 b2 b8 b9 true true false x24 x25 x31 x32 x33 x34 W) : CpJ t w0 N s r B rows vb l wr b1 b2 b8 b9 true true true x24 x25 x31 x32 x33 x34 (W.setCell ⟨B, 2, none⟩ x33) :=
  ⟨⟨h.fl.1, h.fl.2.1, h.fl.2.2.1, by simp, by simp⟩, h.at_, by simp, h.k1, fun q q' => absurd (h.fl.2.1 (h.fl.2.2.1 rfl).1) (by simp [q']), fun _ q => absurd (h.fl.2.2.1 rfl).1 (by simp [q]), by simp, by simp, h.k11, fun _ => (h.k10 rfl rfl).set⟩
end
end Go.Proofs.Ythacjdlohmkpoaa

namespace Go.Proofs.Ythacjdlohmkpoaa
open Go.RowKit

theorem intsInfo : (Try.prog.info? 36).map (fun i => (i.zero, i.size, i.bytes)) = some (some (.slice none 0 0), 1, 24) := by kernel_rfl
theorem tabInfo : (Try.prog.info? 26).map (fun i => (i.zero, i.size, i.bytes)) = some (some (.agg tb0), 4, 88) := by kernel_rfl
set_option maxHeartbeats 8000000 in
set_option maxRecDepth 100000 in
theorem copy_any (t : M.Tb) (p : Tp) (w : World) (h1 : t.elems.length ≤ 1000000) (h2 : t.above.length ≤ 1000000) (h3 : t.wrong.length ≤ 1000000) (h4 : ∀ l, l ∈ t.above → l.length ≤ 1000000) (ht : TbIn w t p) :
    Calls Try.prog 10 #[tbV t p] w fun e w' => ∃ p', e = .returned (tbV t p') ∧ TbIn w' t p' ∧ Below w.heap.size w w' := by
  have hmx : Try.prog.follows .mixedOrders = true := by kernel_rfl
  obtain ⟨i0, hi, hz0, hz1, hz2⟩ := info_parts strInfo
  obtain ⟨j0, hj, hy0, hy1, hy2⟩ := info_parts boolInfo
  obtain ⟨t0, hti, htz, hts, _⟩ := info_parts tabInfo
  obtain ⟨q0, hq, hq0, hq1, hq2⟩ := info_parts intInfo
  obtain ⟨r0, hrr, hr0, hr1, hr2⟩ := info_parts intsInfo
  have HN0 := Lib.hid (And.intro hq (And.intro hq0 (And.intro hq1 hq2)))
  have HN1 := Lib.hid (And.intro hrr (And.intro hr0 (And.intro hr1 hr2)))
  clear hq hq0 hq1 hq2 hrr hr0 hr1 hr2
  have HI := Lib.hid (And.intro hi (And.intro hz0 (And.intro hz1 hz2)))
  have HJ := Lib.hid (And.intro hj (And.intro hy0 (And.intro hy1 hy2)))
  have HTI := Lib.hid (And.intro hti (And.intro htz hts))
  clear hi hz0 hz1 hz2 hj hy0 hy1 hy2 hti htz hts
  have hBB : Below w.heap.size w ((w.alloc (.cells (tbA t p) 26)).alloc (.cells tb0 26)) := belowA (below1 _ _) _
  have HX := Lib.hid ((tbBox (t := t) (p := p) (box_new w (tbA t p) 26)).below (below1 _ (.cells tb0 26)))
  have HY := Lib.hid (box_last w (.cells (tbA t p) 26) tb0 26)
  have HT := Lib.hid (ht.below hBB)
  have HBB := Lib.hid hBB
  have H1 := Lib.hid h1
  have H2 := Lib.hid h2
  have H3 := Lib.hid h3
  have H4 := Lib.hid h4
  clear ht h1 h2 h3 h4 hBB
  go_enter Try.func10, Try.ntmps10
  go_wp2_with fail
  have HSZ := Lib.hid (show ((w.alloc (.cells (tbA t p) 26)).alloc (.cells tb0 26)).heap.size = w.heap.size + 1 + 1 from by rw [World.size_alloc, World.size_alloc])
  generalize hW0 : (w.alloc (.cells (tbA t p) 26)).alloc (.cells tb0 26) = W0 at *
  have hS : ∀ W : World, Below W0.heap.size W0.drew W → W.cell? ⟨w.heap.size, 0, none⟩ = some (.string t.name) ∧ W.cell? ⟨w.heap.size, 1, none⟩ = some (.slice p.ea t.elems.length p.ec) ∧ W.cell? ⟨w.heap.size, 3, none⟩ = some (.slice p.wa t.wrong.length p.wc) := fun W hW => by
    have hb := (HX.out.below (Below.refl _ _).drew).below hW
    exact ⟨hb.c0, hb.c1, hb.c3⟩
  have HS := Lib.hid hS
  have hS0 := hS _ (Below.refl _ _)
  clear hS
  refine wp_region_held (S := fun W => W.cell? ⟨w.heap.size, 0, none⟩ = some (.string t.name) ∧ W.cell? ⟨w.heap.size, 1, none⟩ = some (.slice p.ea t.elems.length p.ec) ∧ W.cell? ⟨w.heap.size, 3, none⟩ = some (.slice p.wa t.wrong.length p.wc)) hmx ?_
  change wpAnyH _ _ _ _ _ _ _ _ W0.drew
  refine wpAnyH_take (i := 0) (v := .pointer (some ⟨w.heap.size, 0, none⟩)) rfl (by kernel_rfl) (by kernel_rfl) (by kernel_rfl) (fun _ _ _ h => h) (Or.inl ⟨by rfl, ?_⟩) hS0 ?_
  · intro W hSw
    obtain ⟨s0, s1, s3⟩ := hSw
    go_simp
  dsimp only [Act.put, List.setIfInBounds_toArray, List.set_cons_zero, List.set_cons_succ]
  refine wpAnyH_take (i := 1) (v := .string t.name) rfl (by kernel_rfl) (by kernel_rfl) (by kernel_rfl) (fun _ _ _ h => h) (Or.inl ⟨by rfl, ?_⟩) hS0 ?_
  · intro W hSw
    obtain ⟨s0, s1, s3⟩ := hSw
    go_simp
  dsimp only [Act.put, List.setIfInBounds_toArray, List.set_cons_zero, List.set_cons_succ]
  refine wpAnyH_take (i := 3) (v := .pointer (some ⟨w.heap.size, 1, none⟩)) rfl (by kernel_rfl) (by kernel_rfl) (by kernel_rfl) (fun _ _ _ h => h) (Or.inl ⟨by rfl, ?_⟩) hS0 ?_
  · intro W hSw
    obtain ⟨s0, s1, s3⟩ := hSw
    go_simp
  dsimp only [Act.put, List.setIfInBounds_toArray, List.set_cons_zero, List.set_cons_succ]
  refine wpAnyH_take (i := 4) (v := .slice p.ea t.elems.length p.ec) rfl (by kernel_rfl) (by kernel_rfl) (by kernel_rfl) (fun _ _ _ h => h) (Or.inl ⟨by rfl, ?_⟩) hS0 ?_
  · intro W hSw
    obtain ⟨s0, s1, s3⟩ := hSw
    go_simp
  dsimp only [Act.put, List.setIfInBounds_toArray, List.set_cons_zero, List.set_cons_succ]
  refine wpAnyH_take (i := 7) (v := .pointer (some ⟨w.heap.size, 3, none⟩)) rfl (by kernel_rfl) (by kernel_rfl) (by kernel_rfl) (fun _ _ _ h => h) (Or.inl ⟨by rfl, ?_⟩) hS0 ?_
  · intro W hSw
    obtain ⟨s0, s1, s3⟩ := hSw
    go_simp
  dsimp only [Act.put, List.setIfInBounds_toArray, List.set_cons_zero, List.set_cons_succ]
  refine wpAnyH_take (i := 8) (v := .slice p.wa t.wrong.length p.wc) rfl (by kernel_rfl) (by kernel_rfl) (by kernel_rfl) (fun _ _ _ h => h) (Or.inl ⟨by rfl, ?_⟩) hS0 ?_
  · intro W hSw
    obtain ⟨s0, s1, s3⟩ := hSw
    go_simp
  dsimp only [Act.put, List.setIfInBounds_toArray, List.set_cons_zero, List.set_cons_succ]
  refine wpAnyH_inv (fun L a W => ∃ b2 b5 b6 b9 b10 b11 b12 x3 x7 x10 x11 x14 x15 s r B, L = #[true, true, b2, true, true, b5, b6, true, true, b9, b10, b11, b12] ∧ a = ⟨#[tbV t p, .pointer (some ⟨w.heap.size, 0, none⟩), .pointer (some ⟨w.heap.size + 1, 0, none⟩), x3, undef, .pointer (some ⟨w.heap.size, 0, none⟩), .string t.name, x7, .pointer (some ⟨w.heap.size, 1, none⟩), .slice p.ea t.elems.length p.ec, x10, x11, .pointer (some ⟨w.heap.size, 3, none⟩), .slice p.wa t.wrong.length p.wc, x14, x15, undef, undef, undef, undef, undef, undef, undef, undef, undef, undef, undef, undef, undef, undef, undef, undef, undef, undef, undef, undef], []⟩ ∧ CpI t W0.drew W0.heap.size b2 b5 b6 b9 b10 b11 b12 x3 x7 x10 x11 x14 x15 s r B W) ?step ?stop _ _ _ _ (by decide) ?start
  case start =>
    refine ⟨false, false, false, false, false, false, false, undef, undef, undef, undef, undef, undef, undef, undef, 0, by kernel_rfl, by rfl, ?_⟩
    refine ⟨⟨by simp, by simp, by simp, by simp⟩, Nat.le_refl _, Below.refl _ _, by simp, by simp, by simp, by simp, by simp, by simp, by simp, by simp, by simp⟩
  case step =>
    rintro L a W ⟨b2, b5, b6, b9, b10, b11, b12, x3, x7, x10, x11, x14, x15, s, r, B, rfl, rfl, hI⟩ i hi
    have hr : (i = 2 ∧ b2 = false) ∨ (i = 5 ∧ b5 = false ∧ b2 = true) ∨ (i = 6 ∧ b6 = false) ∨ (i = 9 ∧ b9 = false ∧ b6 = true ∧ b5 = true) ∨ (i = 10 ∧ b10 = false ∧ b5 = true ∧ b9 = true) ∨ (i = 11 ∧ b11 = false) ∨ (i = 12 ∧ b12 = false ∧ b10 = true ∧ b11 = true) := by
      clear hI
      revert i b2 b5 b6 b9 b10 b11 b12
      set_option synthInstance.maxHeartbeats 1000000 in
      set_option synthInstance.maxSize 1000000 in
      decide +kernel
    clear hi
    rcases hr with ⟨rfl, rfl⟩ | ⟨rfl, rfl, rfl⟩ | ⟨rfl, rfl⟩ | ⟨rfl, rfl, rfl, rfl⟩ | ⟨rfl, rfl, rfl, rfl⟩ | ⟨rfl, rfl⟩ | ⟨rfl, rfl, rfl, rfl⟩
    · have HQ := Lib.hid hI.step2
      clear hI
      refine wpOp_walk rfl fun K' HK => ?_
      go_wp2_with fail
      exact HK.out _ _ ⟨HS.out _ HQ.out.below, _, _, _, _, _, _, _, _, _, _, _, _, _, _, _, _, by kernel_rfl, rfl, HQ.out⟩
    · obtain ⟨rfl, hn, how⟩ := hI.s1 rfl rfl
      have hsl := (HT.out.es.below (Below.refl _ _).drew).below hI.below
      have hle := hI.le
      have HQ := Lib.hid hI
      clear hI
      refine wpOp_walk rfl fun K' HK => ?_
      refine wpList_app_cel (f := Value.string) W (by rfl) _ _ _ (by rfl) _ i0 (.string ⟨#[]⟩) 16 Try.underlying22 HI.out.1 HI.out.2.1 HI.out.2.2.1 HI.out.2.2.2 rfl (by decide) (fun _ => rfl) W0.heap.size _ [] (by rfl) how hle p.ea p.ec t.elems (by rfl) HT.out.en hsl (by simpa using H1.out) ?_
      intro v w' k1 k2 k3 k4
      have HQ := Lib.hid (HQ.out.step5 k1 k2 k3 (k4 hn))
      exact HK.out _ _ ⟨HS.out _ HQ.out.below, _, _, _, _, _, _, _, _, _, _, _, _, _, _, _, _, by kernel_rfl, rfl, HQ.out⟩
    · have HQ := Lib.hid hI.step6
      clear hI
      refine wpOp_walk rfl fun K' HK => ?_
      go_wp2_with fail
      exact HK.out _ _ ⟨HS.out _ HQ.out.below, _, _, _, _, _, _, _, _, _, _, _, _, _, _, _, _, by kernel_rfl, rfl, HQ.out⟩
    · obtain ⟨rfl, hn, how⟩ := hI.r1 rfl rfl
      have hsl := (HT.out.ws.below (Below.refl _ _).drew).below hI.below
      have hle := hI.le
      have HQ := Lib.hid hI
      clear hI
      refine wpOp_walk rfl fun K' HK => ?_
      refine wpList_app_cel (f := Value.bool) W (by rfl) _ _ _ (by rfl) _ j0 (.bool false) 1 Try.underlying24 HJ.out.1 HJ.out.2.1 HJ.out.2.2.1 HJ.out.2.2.2 rfl (by decide) (fun _ => rfl) W0.heap.size _ [] (by rfl) how hle p.wa p.wc t.wrong (by rfl) HT.out.wn hsl (by simpa using H3.out) ?_
      intro v w' k1 k2 k3 k4
      have HQ := Lib.hid (HQ.out.step9 rfl k1 k2 k3 (k4 hn))
      exact HK.out _ _ ⟨HS.out _ HQ.out.below, _, _, _, _, _, _, _, _, _, _, _, _, _, _, _, _, by kernel_rfl, rfl, HQ.out⟩
    · obtain ⟨rfl, _, so⟩ := hI.s2 rfl
      obtain ⟨rfl, _, ro⟩ := hI.r2 rfl
      obtain ⟨sa, sc, rfl⟩ := own_slice' so
      obtain ⟨ra, rc, rfl⟩ := own_slice' ro
      have HQ := Lib.hid (hI.step10 rfl rfl)
      clear hI so ro
      refine wpOp_walk rfl fun K' HK => ?_
      go_wp2_with fail
      exact HK.out _ _ ⟨HS.out _ HQ.out.below, _, _, _, _, _, _, _, _, _, _, _, _, _, _, _, _, by kernel_rfl, rfl, HQ.out⟩
    · have HQ := Lib.hid hI.step11
      clear hI
      refine wpOp_walk rfl fun K' HK => ?_
      go_wp2_with fail
      exact HK.out _ _ ⟨HS.out _ HQ.out.below, _, _, _, _, _, _, _, _, _, _, _, _, _, _, _, _, by kernel_rfl, rfl, HQ.out⟩
    · obtain ⟨rfl, hB1, hbx⟩ := hI.bx rfl
      obtain rfl := hI.k rfl
      obtain ⟨sa, sc, e1⟩ := own_slice' hI.str
      obtain ⟨ra, rc, e2⟩ := own_slice' hI.row
      have HQ := Lib.hid hI
      clear hI
      refine wpOp_walk rfl fun K' HK => ?_
      refine wpList_store_row W (by rfl) 26 _ _ (by rfl) (by rfl) t0 HTI.out.1 B tb0 #[.string t.name, s, .slice none 0 0, r] 26 (by rfl) (by rfl) hbx (by rfl) HTI.out.2.2 ?_ ?_
      · intro v hv
        simp only [List.mem_cons, List.not_mem_nil, or_false] at hv
        rcases hv with rfl | rfl | rfl | rfl
        · rfl
        · rw [e1]; rfl
        · rfl
        · rw [e2]; rfl
      intro w' k1 k2
      have HQ := Lib.hid (HQ.out.step12 k1 k2)
      exact HK.out _ _ ⟨HS.out _ HQ.out.below, _, _, _, _, _, _, _, _, _, _, _, _, _, _, _, _, by kernel_rfl, rfl, HQ.out⟩
  case stop =>
    rintro L a W ⟨b2, b5, b6, b9, b10, b11, b12, x3, x7, x10, x11, x14, x15, s, r, B, rfl, rfl, hI⟩ hi
    have hr : b2 = true ∧ b5 = true ∧ b6 = true ∧ b9 = true ∧ b10 = true ∧ b11 = true ∧ b12 = true := by
      clear hI
      revert b2 b5 b6 b9 b10 b11 b12
      set_option synthInstance.maxHeartbeats 1000000 in
      set_option synthInstance.maxSize 1000000 in
      decide +kernel
    obtain ⟨rfl, rfl, rfl, rfl, rfl, rfl, rfl⟩ := hr
    clear hi
    obtain ⟨rfl, hB1, hbx⟩ := hI.bx rfl
    obtain ⟨rfl, _, _⟩ := hI.s2 rfl
    obtain ⟨rfl, _, _⟩ := hI.r2 rfl
    have HL := Lib.hid hI.done
    clear hI hB1 hbx
    go_wp2_with fail
    go_loopw [4] (fun c wr => ∃ (k : Nat) (v : Value), k ≤ t.above.length ∧ c = .int .i64 k ∧ Hid (CpL t W0.drew W0.heap.size x10 x14 B (t.above.take k) v v wr)) (fun c _ => t.above.length - (intOf c).toNat)
    case atStart => exact ⟨0, _, by omega, rfl, by rw [List.take_zero]; exact HL⟩
    case round =>
      clear HL
      rename World => wr
      obtain ⟨k, v, hk, rfl, HK⟩ := hrel
      have hbx := (HX.out.below (Below.refl _ _).drew).below HK.out.below
      have x2 := hbx.c2
      have H2' := H2.out
      clear hbx
      by_cases hkl : k < t.above.length
      · have n1 : (k : Int) < (t.above.length : Int) := by omega
        have n2 : (0 : Int) ≤ (k : Int) := by omega
        obtain ⟨ab, ao, epa, hra⟩ := HT.out.as_.at hkl
        obtain ⟨ra, rc, hra1, hra2, hra3, hra4⟩ := hra.at_ k hkl
        have hQS : ∀ W : World, Below W0.heap.size W0.drew W → W.cell? ⟨w.heap.size, 2, none⟩ = some (.slice (some ⟨ab, ao, none⟩) t.above.length p.ac) ∧ W.cell? ⟨ab, ao + k, none⟩ = some (.slice ra t.above[k].length rc) := fun W hW => by
          have hb := (HX.out.below (Below.refl _ _).drew).below hW
          exact ⟨by rw [← epa]; exact hb.c2, cell_below (cell_below hra1 (Below.refl _ _).drew) hW⟩
        have HQS := Lib.hid hQS
        rw [epa] at x2
        clear epa
        have HR2 := Lib.hid hra2
        have HR4 := Lib.hid hra4
        have HL4 := Lib.hid (H4.out _ (List.getElem_mem hkl))
        clear hra hra1 hra2 hra3 hra4 hQS
        go_wp2_with fail
        have HD := Lib.hid (HK.out.new (Below.refl wr.heap.size wr).drew)
        have hQ0 := HQS.out _ HD.out.below
        refine wp_region_held (S := fun W => W.cell? ⟨w.heap.size, 2, none⟩ = some (.slice (some ⟨ab, ao, none⟩) t.above.length p.ac) ∧ W.cell? ⟨ab, ao + k, none⟩ = some (.slice ra t.above[k].length rc)) hmx ?_
        change wpAnyH _ _ _ _ _ _ _ _ wr.drew
        refine wpAnyH_take (i := 0) (v := .pointer (some ⟨B, 2, none⟩)) rfl (by kernel_rfl) (by kernel_rfl) (by kernel_rfl) (fun _ _ _ h => h) (Or.inl ⟨by rfl, ?_⟩) hQ0 ?_
        · intro W' hSw
          obtain ⟨s0, s1⟩ := hSw
          go_simp
        dsimp only [Act.put, List.setIfInBounds_toArray, List.set_cons_zero, List.set_cons_succ]
        refine wpAnyH_take (i := 3) (v := .pointer (some ⟨w.heap.size, 2, none⟩)) rfl (by kernel_rfl) (by kernel_rfl) (by kernel_rfl) (fun _ _ _ h => h) (Or.inl ⟨by rfl, ?_⟩) hQ0 ?_
        · intro W' hSw
          obtain ⟨s0, s1⟩ := hSw
          go_simp
        dsimp only [Act.put, List.setIfInBounds_toArray, List.set_cons_zero, List.set_cons_succ]
        refine wpAnyH_take (i := 4) (v := .slice (some ⟨ab, ao, none⟩) t.above.length p.ac) rfl (by kernel_rfl) (by kernel_rfl) (by kernel_rfl) (fun _ _ _ h => h) (Or.inl ⟨by rfl, ?_⟩) hQ0 ?_
        · intro W' hSw
          obtain ⟨s0, s1⟩ := hSw
          go_simp
        dsimp only [Act.put, List.setIfInBounds_toArray, List.set_cons_zero, List.set_cons_succ]
        refine wpAnyH_take (i := 5) (v := .int .i64 k) rfl (by kernel_rfl) (by kernel_rfl) (by kernel_rfl) (fun _ _ _ h => h) (Or.inl ⟨by rfl, ?_⟩) hQ0 ?_
        · intro W' hSw
          obtain ⟨s0, s1⟩ := hSw
          go_simp
        dsimp only [Act.put, List.setIfInBounds_toArray, List.set_cons_zero, List.set_cons_succ]
        refine wpAnyH_take (i := 6) (v := .pointer (some ⟨ab, ao + k, none⟩)) rfl (by kernel_rfl) (by kernel_rfl) (by kernel_rfl) (fun _ _ _ h => h) (Or.inl ⟨by rfl, ?_⟩) hQ0 ?_
        · intro W' hSw
          obtain ⟨s0, s1⟩ := hSw
          go_simp
        dsimp only [Act.put, List.setIfInBounds_toArray, List.set_cons_zero, List.set_cons_succ]
        refine wpAnyH_take (i := 7) (v := .slice ra t.above[k].length rc) rfl (by kernel_rfl) (by kernel_rfl) (by kernel_rfl) (fun _ _ _ h => h) (Or.inl ⟨by rfl, ?_⟩) hQ0 ?_
        · intro W' hSw
          obtain ⟨s0, s1⟩ := hSw
          go_simp
        dsimp only [Act.put, List.setIfInBounds_toArray, List.set_cons_zero, List.set_cons_succ]
        refine wpAnyH_inv (fun L a W => ∃ c1 c2 c8 c9 c10 c11 c12 y24 y25 y31 y32 y33 y34, L = #[true, c1, c2, true, true, true, true, true, c8, c9, c10, c11, c12] ∧ a = ⟨#[tbV t p, .pointer (some ⟨w.heap.size, 0, none⟩), .pointer (some ⟨w.heap.size + 1, 0, none⟩), .pointer (some ⟨B, 0, none⟩), .int .i64 k, .pointer (some ⟨w.heap.size, 0, none⟩), .string t.name, x7, .pointer (some ⟨w.heap.size, 1, none⟩), .slice p.ea t.elems.length p.ec, x10, x11, .pointer (some ⟨w.heap.size, 3, none⟩), .slice p.wa t.wrong.length p.wc, x14, x15, .int .i64 k, .pointer (some ⟨w.heap.size, 2, none⟩), .slice (some ⟨ab, ao, none⟩) t.above.length p.ac, .int .i64 t.above.length, .bool true, u21, u22, .pointer (some ⟨B, 2, none⟩), y24, y25, .pointer (some ⟨w.heap.size, 2, none⟩), .slice (some ⟨ab, ao, none⟩) t.above.length p.ac, .int .i64 k, .pointer (some ⟨ab, ao + k, none⟩), .slice ra t.above[k].length rc, y31, y32, y33, y34, undef], []⟩ ∧ CpJ t W0.drew W0.heap.size x10 x14 B (t.above.take k) v t.above[k] wr.drew c1 c2 c8 c9 c10 c11 c12 y24 y25 y31 y32 y33 y34 W) ?step ?stop _ _ _ _ (by decide) ?start
        case start => exact ⟨false, false, false, false, false, false, false, u24, u25, u31, u32, u33, u34, by kernel_rfl, by rfl, CpJ.start HD.out⟩
        case step =>
          clear hQ0 x2
          rintro L a W ⟨c1, c2, c8, c9, c10, c11, c12, y24, y25, y31, y32, y33, y34, rfl, rfl, hI⟩ i hi
          have hr : (i = 1 ∧ c1 = false) ∨ (i = 2 ∧ c2 = false) ∨ (i = 8 ∧ c8 = false ∧ c2 = true) ∨ (i = 9 ∧ c9 = false ∧ c8 = true) ∨ (i = 10 ∧ c10 = false ∧ c9 = true ∧ c1 = true) ∨ (i = 11 ∧ c11 = false ∧ c10 = true) ∨ (i = 12 ∧ c12 = false ∧ c11 = true ∧ c10 = true) := by
            clear hI
            revert i c1 c2 c8 c9 c10 c11 c12
            set_option synthInstance.maxHeartbeats 1000000 in
            set_option synthInstance.maxSize 1000000 in
            decide +kernel
          clear hi
          rcases hr with ⟨rfl, rfl⟩ | ⟨rfl, rfl⟩ | ⟨rfl, rfl, rfl⟩ | ⟨rfl, rfl, rfl⟩ | ⟨rfl, rfl, rfl, rfl⟩ | ⟨rfl, rfl, rfl⟩ | ⟨rfl, rfl, rfl, rfl⟩
          · have hc := hI.cell
            have HQ := Lib.hid hI.step1
            clear hI
            refine wpOp_walk rfl fun K' HZ => ?_
            go_wp2_with fail
            exact HZ.out _ _ ⟨HQS.out _ HQ.out.below, _, _, _, _, _, _, _, _, _, _, _, _, _, by kernel_rfl, rfl, HQ.out⟩
          · have HQ := Lib.hid hI.step2
            clear hI
            refine wpOp_walk rfl fun K' HZ => ?_
            go_wp2_with fail
            exact HZ.out _ _ ⟨HQS.out _ HQ.out.below, _, _, _, _, _, _, _, _, _, _, _, _, _, by kernel_rfl, rfl, HQ.out⟩
          · obtain ⟨rfl, rfl, rfl, rfl⟩ := hI.no9
            obtain ⟨hn, how⟩ := hI.k2 rfl rfl
            have hle := (hI.bel rfl).size
            have hsl := (((HR4.out.below (Below.refl _ _).drew).below HD.out.below)).below (hI.bel rfl)
            have HQ := Lib.hid hI
            clear hI
            refine wpOp_walk rfl fun K' HZ => ?_
            refine wpList_app_cel (f := Value.int .i64) W (by rfl) _ _ _ (by rfl) _ q0 (.int .i64 0) 8 Try.underlying36 HN0.out.1 HN0.out.2.1 HN0.out.2.2.1 HN0.out.2.2.2 rfl (by decide) (fun _ => rfl) wr.drew.heap.size _ [] (by rfl) how hle ra rc t.above[k] (by rfl) HR2.out hsl (by simpa using HL4.out) ?_
            intro v' w' k1 k2 k3 k4
            have HQ := Lib.hid (HQ.out.step8 k1 k2)
            exact HZ.out _ _ ⟨HQS.out _ HQ.out.below, _, _, _, _, _, _, _, _, _, _, _, _, _, by kernel_rfl, rfl, HQ.out⟩
          · have HQ := Lib.hid hI.step9
            obtain ⟨rfl, rfl, rfl⟩ := hI.no10'
            obtain ⟨za, zc, rfl⟩ := own_slice' (hI.k8 rfl rfl)
            clear hI
            refine wpOp_walk rfl fun K' HZ => ?_
            go_wp2_with fail
            exact HZ.out _ _ ⟨HQS.out _ HQ.out.below, _, _, _, _, _, _, _, _, _, _, _, _, _, by kernel_rfl, rfl, HQ.out⟩
          · obtain ⟨rfl, hnst, hle, g, ga, gc, rfl, q1, q2, q3, q4⟩ := hI.for10
            obtain ⟨va, vc, ev⟩ := hnst.slice
            have HQ := Lib.hid hI
            clear hI
            refine wpOp_walk rfl fun K' HZ => ?_
            refine wpList_append_nestQ (f := Value.int .i64) W (by rfl) _ _ _ (by rfl) _ r0 Try.underlying23 HN1.out.1 HN1.out.2.1 HN1.out.2.2.1 HN1.out.2.2.2 W0.heap.size _ (t.above.take k) (by rfl) hnst hle ⟨g, 0, none⟩ 1 ga t.above[k] gc (by rfl) q1 (by rw [List.length_take]; have := H2.out; omega) q2 q3 q4 ?_
            intro g' c' w' k1 k2 k3
            have HQ := Lib.hid (HQ.out.step10 k1 k2 k3)
            exact HZ.out _ _ ⟨HQS.out _ HQ.out.below, _, _, _, _, _, _, _, _, _, _, _, _, _, by kernel_rfl, rfl, HQ.out⟩
          · have HQ := Lib.hid hI.step11
            clear hI
            refine wpOp_walk rfl fun K' HZ => ?_
            go_wp2_with fail
            exact HZ.out _ _ ⟨HQS.out _ HQ.out.below, _, _, _, _, _, _, _, _, _, _, _, _, _, by kernel_rfl, rfl, HQ.out⟩
          · obtain ⟨rfl, q1, q2, za, zn, zc, rfl⟩ := hI.for12
            have HQ := Lib.hid hI.step12
            clear hI
            refine wpOp_walk rfl fun K' HZ => ?_
            go_wp2_with fail
            exact HZ.out _ _ ⟨HQS.out _ HQ.out.below, _, _, _, _, _, _, _, _, _, _, _, _, _, by kernel_rfl, rfl, HQ.out⟩
        case stop =>
          rintro L a W ⟨c1, c2, c8, c9, c10, c11, c12, y24, y25, y31, y32, y33, y34, rfl, rfl, hI⟩ hi
          have hr : c1 = true ∧ c2 = true ∧ c8 = true ∧ c9 = true ∧ c10 = true ∧ c11 = true ∧ c12 = true := by
            clear hI
            revert c1 c2 c8 c9 c10 c11 c12
            set_option synthInstance.maxHeartbeats 1000000 in
            set_option synthInstance.maxSize 1000000 in
            decide +kernel
          obtain ⟨rfl, rfl, rfl, rfl, rfl, rfl, rfl⟩ := hr
          have HE := Lib.hid (hI.k12 rfl)
          clear hi hI hQ0 x2
          go_wp2_with fail
          go_roundw
          case rel => exact ⟨k + 1, _, by omega, by go_num, Lib.hid (by rw [List.take_succ_eq_append_getElem hkl]; exact HE.out)⟩
          case measure => simp [intOf]; omega
      · obtain rfl : k = t.above.length := by omega
        have m1 : decide ((t.above.length : Int) < (t.above.length : Int)) = false := decide_eq_false (by omega)
        have hKK := HK.out
        rw [List.take_length] at hKK
        have hN := hKK.nz
        have hsz := HSZ.out
        obtain ⟨p', hb', ht'⟩ := hKK.table
        have hbl := hKK.below
        have ho : wr.heap[w.heap.size + 1]? = some (.cells tb0 26 (0, 0)) := by
          rw [hbl.block _ (by have := HSZ.out; omega)]
          exact HY.out
        have hne : B ≠ w.heap.size + 1 := by have := hKK.hB; have := HSZ.out; omega
        have HB' := Lib.hid hb'
        have HT' := Lib.hid ht'
        have HBL := Lib.hid hbl
        have HO := Lib.hid ho
        clear hb' ht' hbl ho hKK HK hN hsz
        go_wp2_with (first
          | (refine wpList_load_row _ rfl 26 _ rfl t0 HTI.out.1 (by kernel_rfl) B (tbA t p') 26 rfl HB'.out HTI.out.2.2 ?_)
          | (refine wpList_store_row _ rfl 26 _ _ rfl rfl t0 HTI.out.1 (w.heap.size + 1) tb0 (tbA t p') 26 rfl rfl HO.out rfl HTI.out.2.2 (by intro v hv; simp only [List.mem_cons, List.not_mem_nil, or_false] at hv; rcases hv with rfl | rfl | rfl | rfl <;> rfl) ?_; intro w3 h3 hg3; have H3 := Lib.hid h3; clear h3))
        obtain ⟨q0, q1, q2, q3⟩ := tbBox (t := t) (p := p') H3.out
        have hsz := HSZ.out
        have hBf : Below w.heap.size w w3 := (below2 HBB.out ((Below.refl _ _).drew.trans HBL.out)).grown hg3 (by have := HBL.out.size; simp at this; omega) (fun k e => by cases e; omega)
        exact bodyPost_ret (v := tbV t p') (by simp [results, Try.results10, go_sem, q0, q1, q2, q3]) rfl ⟨p', rfl, HT'.out w3 hg3.size (fun g h1 h2 => hg3.block g h2 (fun e => by injection e with e; omega)), hBf⟩
end Go.Proofs.Ythacjdlohmkpoaa
