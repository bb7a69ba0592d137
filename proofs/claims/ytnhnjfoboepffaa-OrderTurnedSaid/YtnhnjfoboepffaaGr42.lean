/- Texts of one's own, joined: OrdSd, OrdBb, OrdBc, OrdBg, OrdBj, OrdBk, OrdDd. -/
import Derived.Test.YtnhnjfoboepffaaGr12
import Derived.Test.YtnhnjfoboepffaaGr26
import Derived.Test.YtnhnjfoboepffaaGr11
import Derived.Test.YtnhnjfoboepffaaGr40
import Derived.Test.YtnhnjfoboepffaaGr31
import Derived.Test.YtnhnjfoboepffaaGr41
import Derived.Test.YtnhnjfoboepffaaGr39
import Derived.Test.YtnhnjfoboepffaaGr20
import Derived.Test.YtnhnjfoboepffaaGr22
namespace Go.Proofs.Ytnhnjfoboepffaa
open Go.RowKit

namespace M
theorem kidsN_le (k : Nat) : kidsN k ≤ 2 := by unfold kidsN; split <;> (try split) <;> omega
theorem Sh.sz_deep : ∀ (l : Nat) (s : Sh), s.okB = true → deepB s l = false → s.sz + 1 ≤ 2 ^ l := by
  intro l
  induction l with
  | zero => intro s _ h; cases s; cases h
  | succ l ih =>
    intro s hok hd
    rw [deepB_succ, List.any_eq_false] at hd
    rw [Sh.okB_eq, Bool.and_eq_true, List.all_eq_true] at hok
    obtain ⟨hh, hall⟩ := hok
    unfold headB at hh
    simp only [Bool.and_eq_true, decide_eq_true_eq] at hh
    have hk := kidsN_le s.kind
    rw [Sh.sz_eq]
    have hsum : ∀ ks : List Sh, (∀ x, x ∈ ks → x.sz + 1 ≤ 2 ^ l) → (ks.map Sh.sz).sum + ks.length ≤ ks.length * 2 ^ l := fun ks => by
      induction ks with
      | nil => intro _; simp
      | cons x r ihr =>
        intro h
        have hx := h x List.mem_cons_self
        have hr := ihr (fun y hy => h y (List.mem_cons_of_mem _ hy))
        rw [List.map_cons, List.sum_cons, List.length_cons, Nat.add_mul, Nat.one_mul]
        omega
    have h1 := hsum s.kids (fun x hx => ih x (hall x hx) (by have := hd x hx; simpa using this))
    have hl : s.kids.length = kidsN s.kind := hh.1.2
    have h2 : s.kids.length * 2 ^ l ≤ 2 * 2 ^ l := Nat.mul_le_mul_right _ (by omega)
    rw [Nat.pow_succ, Nat.mul_comm]
    have hp : 0 < 2 ^ l := Nat.pow_pos (by omega)
    have h3 : s.kids.length * 2 ^ l = 0 ∨ 1 ≤ s.kids.length := by
      rcases Nat.eq_zero_or_pos s.kids.length with q | q
      · left; rw [q, Nat.zero_mul]
      · exact Or.inr q
    rcases h3 with h3 | h3
    · omega
    · have : s.kids.length = 1 ∨ s.kids.length = 2 := by omega
      rcases this with q | q <;> rw [q] at h1 <;> omega
end M
/-- What ShapeText comes to. -/
def ShTextPost (s : M.Sh) (w : World) (e : Ending) (w' : World) : Prop :=
  ((M.deepB s 4 = true ∧ e = .returned (.tuple #[.string ⟨#[]⟩, .int .i64 5])) ∨ (M.deepB s 4 = false ∧ s.okB = false ∧ e = .returned (.tuple #[.string ⟨#[]⟩, .int .i64 4])) ∨
    (M.deepB s 4 = false ∧ s.okB = true ∧ e = .returned (.tuple #[.string (bs s.txt), .int .i64 0]))) ∧ Below w.heap.size w w'
theorem st_1 {s : M.Sh} {w w' : World} (h : M.deepB s 4 = true) (hB : Below w.heap.size w w') : ShTextPost s w (.returned (.tuple #[.string ⟨#[]⟩, .int .i64 5])) w' := ⟨Or.inl ⟨h, rfl⟩, hB⟩
theorem st_2 {s : M.Sh} {w w' : World} (h : M.deepB s 4 = false) (ho : s.okB = false) (hB : Below w.heap.size w w') : ShTextPost s w (.returned (.tuple #[.string ⟨#[]⟩, .int .i64 4])) w' := ⟨Or.inr (Or.inl ⟨h, ho, rfl⟩), hB⟩
theorem st_3 {s : M.Sh} {w w' : World} (h : M.deepB s 4 = false) (ho : s.okB = true) (hB : Below w.heap.size w w') : ShTextPost s w (.returned (.tuple #[.string (bs s.txt), .int .i64 0])) w' := ⟨Or.inr (Or.inr ⟨h, ho, rfl⟩), hB⟩

set_option maxHeartbeats 4000000 in
set_option maxRecDepth 100000 in
theorem ShapeText_any (s : M.Sh) (a : Option Addr) (c : Nat) (w : World) (hs : ShAt w s a c) : Calls Try.prog 27 #[shV s a c] w (ShTextPost s w) := by
  have hb0 := below1 w (.cells #[.int .u8 s.kind, .string s.name, .slice a s.kids.length c] 57)
  have HB0 := Lib.hid hb0
  have hx0 := box_new w #[.int .u8 s.kind, .string s.name, .slice a s.kids.length c] 57
  obtain ⟨c0, c1, c2⟩ := shBox hx0
  have HX0 := Lib.hid hx0
  have HS := Lib.hid (hs.below hb0)
  have HD := Lib.hid (isDeeper_any 4 s a c _ (by omega) (hs.below hb0))
  clear hs hb0 hx0
  cases hd : M.deepB s 4 with
  | true =>
    have HDD := Lib.hid hd
    clear hd
    go_enter Try.func27, Try.ntmps27
    go_wp2_with fail
    refine HD.out.mono ?_
    rintro e w1 ⟨rfl, hB1⟩
    rw [HDD.out]
    have hB := below2 HB0.out hB1
    clear c0 c1 c2
    go_wp2_with fail
    go_ret2
    exact st_1 HDD.out hB
  | false =>
    have HDD := Lib.hid hd
    have HZ := Lib.hid (fun ho => M.Sh.sz_deep 4 s ho hd)
    clear hd
    go_enter Try.func27, Try.ntmps27
    go_wp2_with fail
    refine HD.out.mono ?_
    rintro e w1 ⟨rfl, hB1⟩
    rw [HDD.out]
    have hB := below2 HB0.out hB1
    obtain ⟨d0, d1, d2⟩ := shBox (s := s) (a := a) (c := c) ((hB1.block _ (by simp)).trans HX0.out)
    have HS1 := Lib.hid (HS.out.below hB1)
    have HK := Lib.hid (isShape_any (s.sz + 1) s a c w1 (by omega) HS1.out)
    have HX1 := Lib.hid ((hB1.block _ (by simp)).trans HX0.out)
    have hlt1 : w.heap.size < w1.heap.size := World.block_lt_of_cell? _ _ d0
    clear c0 c1 c2 hB1
    go_wp2_with fail
    refine HK.out.mono ?_
    rintro e w2 ⟨rfl, hB2⟩
    have hBB := below2 hB hB2
    obtain ⟨e0, e1, e2⟩ := shBox (s := s) (a := a) (c := c) ((hB2.block _ hlt1).trans HX1.out)
    have HS2 := Lib.hid (HS1.out.below hB2)
    clear d0 d1 d2 hB2
    cases ho : s.okB with
    | false =>
      have HO := Lib.hid ho
      clear ho
      go_wp2_with fail
      go_ret2
      exact st_2 HDD.out HO.out hBB
    | true =>
      have HO := Lib.hid ho
      have HT := Lib.hid (shapeText_any (s.sz + 1) s a c w2 (by omega) (by have := HZ.out ho; omega) ho HS2.out)
      clear ho
      go_wp2_with fail
      refine HT.out.mono ?_
      rintro e w3 ⟨rfl, hB3⟩
      have hBf := below2 hBB hB3
      clear e0 e1 e2
      go_wp2_with fail
      go_ret2
      exact st_3 HDD.out HO.out hBf
end Go.Proofs.Ytnhnjfoboepffaa

namespace Go.Proofs.Ytnhnjfoboepffaa
open Go.RowKit
namespace M
theorem asc_of {n : Nat} {l : List Int} (h : (∀ k, k < l.length → 0 ≤ l.getD k 0 ∧ l.getD k 0 < n ∧ (0 < k → l.getD (k - 1) 0 < l.getD k 0))) : asc n l := by
  intro k hk
  have := h k hk
  have hk' : k - 1 < l.length := by omega
  simp only [List.getD_eq_getElem?_getD, List.getElem?_eq_getElem hk, List.getElem?_eq_getElem hk', Option.getD_some] at this
  exact this
theorem form_of {t : Tb} (h1 : isTabB t.name = true) (h2 : 1 ≤ t.elems.length ∧ t.elems.length ≤ 12 ∧ t.above.length = t.elems.length ∧ t.wrong.length = t.elems.length)
    (h3 : t.elems.all (fun s => isNameB s.data.toList) = true) (h4 : ∀ i, i < t.elems.length → ∀ j, j < t.elems.length → i < j → (t.elems.getD i ⟨#[]⟩).data.toList ≠ (t.elems.getD j ⟨#[]⟩).data.toList)
    (h5 : ∀ i, i < t.above.length → ∀ k, k < (t.above.getD i []).length → 0 ≤ (t.above.getD i []).getD k 0 ∧ (t.above.getD i []).getD k 0 < t.elems.length ∧ (0 < k → (t.above.getD i []).getD (k - 1) 0 < (t.above.getD i []).getD k 0)) : form t := by
  refine ⟨h1, h2.1, h2.2.1, h2.2.2.1, h2.2.2.2, fun i hi => ?_, fun i j hi hj hij e => ?_, fun i hi => ?_⟩
  · rw [List.all_eq_true] at h3
    exact h3 _ (List.getElem_mem hi)
  · apply h4 i hi j hj hij
    simp only [List.getD_eq_getElem?_getD, List.getElem?_eq_getElem hi, List.getElem?_eq_getElem hj, Option.getD_some, e]
  · have := asc_of (h5 i hi)
    rw [List.getD_eq_getElem?_getD, List.getElem?_eq_getElem hi, Option.getD_some] at this
    exact this
theorem dia_form : form dia := form_of (by decide +kernel) (by decide +kernel) (by decide +kernel) (by decide +kernel) (by decide +kernel)
theorem man_form : form man := form_of (by decide +kernel) (by decide +kernel) (by decide +kernel) (by decide +kernel) (by decide +kernel)
theorem dia_brk : brk dia = (0, 0, 0) := by decide +kernel
theorem man_brk : brk man = (4, 1, 2) := by decide +kernel
theorem dia_jn : jnD dia 1 2 = 3 := by decide +kernel
theorem dia_prt : listN (prt dia 3) 12 = [1, 2] := by decide +kernel
theorem dia_txt : txt dia = [108, 97, 116, 116, 105, 99, 101, 32, 108, 32, 123, 32, 97, 58, 32, 98, 44, 32, 99, 59, 32, 98, 58, 32, 100, 59, 32, 99, 58, 32, 100, 59, 32, 100, 33, 32, 125] := by decide +kernel
theorem dia_h : isH dia 0 2 := isH_it dia_form (by decide +kernel) (by decide +kernel) (by decide +kernel)
def shp : Sh := .mk 6 ⟨#[]⟩ [.mk 7 ⟨#[]⟩ [.mk 1 ⟨#[]⟩ [], .mk 5 ⟨#[108]⟩ []]]
theorem shp_deep : deepB shp 4 = false := by decide +kernel
theorem shp_ok : shp.okB = true := by decide +kernel
theorem shp_txt : shp.txt = [109, 97, 112, 40, 112, 97, 105, 114, 40, 102, 108, 97, 103, 44, 32, 108, 41, 41] := by decide +kernel
end M
end Go.Proofs.Ytnhnjfoboepffaa

namespace Go.Proofs.Ytnhnjfoboepffaa
open Go.RowKit

theorem dia_al : ∀ l, l ∈ M.dia.above → l.length ≤ 1000000 := by decide +kernel
theorem man_al : ∀ l, l ∈ M.man.above → l.length ≤ 1000000 := by decide +kernel
theorem dia_nz : ¬ (M.brk M.dia).1 ≠ 0 := by rw [M.dia_brk]; simp
theorem joinDia (p : Tp) (w : World) (ht : TbIn w M.dia p) : Calls Try.prog 22 #[tbV M.dia p, .int .i64 1, .int .i64 2] w fun e w' => e = .returned (.tuple #[.int .i64 3, .int .i64 0]) ∧ Below w.heap.size w w' := by
  refine (joinX_any M.dia p 1 2 w dia_al ht).mono ?_
  rintro e w' ⟨⟨hf, _⟩ | ⟨_, hk, _⟩ | ⟨_, hin, _⟩ | ⟨_, _, rfl⟩, hB⟩
  · exact absurd M.dia_form hf
  · exact absurd hk dia_nz
  · exact absurd hin (by decide +kernel)
  · refine ⟨?_, hB⟩
    rw [show M.jnD M.dia (Int.toNat 1) (Int.toNat 2) = 3 from M.dia_jn]; rfl
theorem proveMan (p : Tp) (w : World) (ht : TbIn w M.man p) : Calls Try.prog 20 #[tbV M.man p] w fun e w' => e = .returned (.tuple #[.agg #[.int .u8 4, .int .i64 1, .int .i64 2], .int .i64 12]) ∧ Below w.heap.size w w' := by
  refine (prove_any M.man p w man_al ht).mono ?_
  rintro e w' ⟨⟨hf, _⟩ | ⟨_, hk, rfl⟩ | ⟨_, hk, _⟩, hB⟩
  · exact absurd M.man_form hf
  · refine ⟨?_, hB⟩
    rw [M.man_brk]; rfl
  · rw [M.man_brk] at hk; cases hk
theorem heightDia (p : Tp) (w : World) (ht : TbIn w M.dia p) : Calls Try.prog 25 #[tbV M.dia p] w fun e w' => e = .returned (.tuple #[.int .i64 2, .int .i64 0]) ∧ Below w.heap.size w w' := by
  refine (heightX_any M.dia p w dia_al ht).mono ?_
  rintro e w' ⟨⟨hf, _⟩ | ⟨_, hk, _⟩ | ⟨_, k, hk, rfl⟩, hB⟩
  · exact absurd M.dia_form hf
  · exact absurd hk dia_nz
  · obtain rfl := M.isH_one hk M.dia_h
    exact ⟨rfl, hB⟩
theorem textDia (p : Tp) (w : World) (ht : TbIn w M.dia p) : Calls Try.prog 10 #[tbV M.dia p] w fun e w' => e = .returned (.tuple #[.string ⟨#[108, 97, 116, 116, 105, 99, 101, 32, 108, 32, 123, 32, 97, 58, 32, 98, 44, 32, 99, 59, 32, 98, 58, 32, 100, 59, 32, 99, 58, 32, 100, 59, 32, 100, 33, 32, 125]⟩, .int .i64 0]) ∧ Below w.heap.size w w' := by
  refine (text_any M.dia p w dia_al ht).mono ?_
  rintro e w' ⟨⟨hf, _⟩ | ⟨_, rfl⟩, hB⟩
  · exact absurd M.dia_form hf
  · refine ⟨?_, hB⟩
    rw [M.dia_txt]; rfl
theorem partsDia (p : Tp) (w : World) (ht : TbIn w M.dia p) : Calls Try.prog 26 #[tbV M.dia p, .int .i64 3] w fun e w' => (∃ la c, e = .returned (.tuple #[.slice la 2 c, .int .i64 0]) ∧ IntSl w' la [1, 2]) ∧ Below w.heap.size w w' := by
  refine (partsX_any M.dia p 3 w dia_al ht).mono ?_
  rintro e w' ⟨⟨hf, _⟩ | ⟨_, hk, _⟩ | ⟨_, hin, _⟩ | ⟨_, _, la, c, rfl, _, _, h⟩, hB⟩
  · exact absurd M.dia_form hf
  · exact absurd hk dia_nz
  · exact absurd hin (by decide +kernel)
  · rw [show M.listN (M.prt M.dia (Int.toNat 3)) 12 = [1, 2] from M.dia_prt] at h ⊢
    exact ⟨⟨la, c, rfl, h⟩, hB⟩
theorem shapeMap (a : Option Addr) (c : Nat) (w : World) (hs : ShAt w M.shp a c) : Calls Try.prog 27 #[.agg #[.int .u8 6, .string ⟨#[]⟩, .slice a 1 c]] w fun e w' => e = .returned (.tuple #[.string ⟨#[109, 97, 112, 40, 112, 97, 105, 114, 40, 102, 108, 97, 103, 44, 32, 108, 41, 41]⟩, .int .i64 0]) ∧ Below w.heap.size w w' := by
  refine (ShapeText_any M.shp a c w hs).mono ?_
  rintro e w' ⟨⟨hd, _⟩ | ⟨_, ho, _⟩ | ⟨_, _, rfl⟩, hB⟩
  · rw [M.shp_deep] at hd; cases hd
  · rw [M.shp_ok] at ho; cases ho
  · refine ⟨?_, hB⟩
    rw [M.shp_txt]; rfl

/-- The shape of the small test, laid. -/
theorem shp_laid (w : World) : ShAt ((w.alloc (.cells #[.int .u8 1, .string ⟨#[]⟩, .slice none 0 0, .int .u8 5, .string ⟨#[108]⟩, .slice none 0 0] 57)).alloc (.cells #[.int .u8 7, .string ⟨#[]⟩, .slice (some ⟨w.heap.size, 0, none⟩) 2 2] 57)) M.shp (some ⟨w.heap.size + 1, 0, none⟩) 1 := by
  have h0 := box_new w #[.int .u8 1, .string ⟨#[]⟩, .slice none 0 0, .int .u8 5, .string ⟨#[108]⟩, .slice none 0 0] 57
  obtain ⟨w1, e1⟩ : ∃ w1, w.alloc (.cells #[.int .u8 1, .string ⟨#[]⟩, .slice none 0 0, .int .u8 5, .string ⟨#[108]⟩, .slice none 0 0] 57) = w1 := ⟨_, rfl⟩
  have s1 : w1.heap.size = w.heap.size + 1 := by rw [← e1, World.size_alloc]
  rw [e1] at h0 ⊢
  have h1 := box_new w1 #[.int .u8 7, .string ⟨#[]⟩, .slice (some ⟨w.heap.size, 0, none⟩) 2 2] 57
  have h2 := heap_below h0 (below1 w1 (.cells #[.int .u8 7, .string ⟨#[]⟩, .slice (some ⟨w.heap.size, 0, none⟩) 2 2] 57))
  have s2 : (w1.alloc (.cells #[.int .u8 7, .string ⟨#[]⟩, .slice (some ⟨w.heap.size, 0, none⟩) 2 2] 57)).heap.size = w1.heap.size + 1 := by rw [World.size_alloc]
  obtain ⟨w2, e2⟩ : ∃ w2, w1.alloc (.cells #[.int .u8 7, .string ⟨#[]⟩, .slice (some ⟨w.heap.size, 0, none⟩) 2 2] 57) = w2 := ⟨_, rfl⟩
  rw [e2] at h1 h2 s2 ⊢
  rw [s1] at h1 s2
  unfold M.shp
  rw [ShAt]
  refine ⟨fun h => (by cases h), Nat.le_refl 1, by decide, Or.inr ⟨_, 0, rfl, by omega, ?_⟩⟩
  rw [KidsAt, KidsAt]
  refine ⟨⟨_, _, by rw [Lib.cell_of_heap h1]; rfl, by rw [Lib.cell_of_heap h1]; rfl, by rw [Lib.cell_of_heap h1]; rfl, ?_⟩, trivial⟩
  rw [ShAt]
  refine ⟨fun h => (by cases h), Nat.le_refl 2, by decide, Or.inr ⟨_, 0, rfl, by omega, ?_⟩⟩
  rw [KidsAt, KidsAt, KidsAt]
  refine ⟨⟨none, 0, by rw [Lib.cell_of_heap h2]; rfl, by rw [Lib.cell_of_heap h2]; rfl, by rw [Lib.cell_of_heap h2]; rfl, ?_⟩, ⟨none, 0, by rw [Lib.cell_of_heap h2]; rfl, by rw [Lib.cell_of_heap h2]; rfl, by rw [Lib.cell_of_heap h2]; rfl, ?_⟩, trivial⟩
  · rw [ShAt]; exact ⟨fun _ => rfl, Nat.le_refl 0, by decide, Or.inl rfl⟩
  · rw [ShAt]; exact ⟨fun _ => rfl, Nat.le_refl 0, by decide, Or.inl rfl⟩

set_option maxHeartbeats 8000000 in
set_option maxRecDepth 100000 in
theorem awake_any (w : World) : Calls Try.prog 7 #[] w fun e w' => e = .returned (.bool true) ∧ Below w.heap.size w w' := by
  go_enter Try.func7, Try.ntmps7
  go_wp2_with fail
  refine (diamond_any _).mono ?_
  rintro e w1 ⟨p1, rfl, HT1, hB1⟩
  have HJ := Lib.hid (joinDia p1 w1 HT1)
  clear HT1
  go_wp2_with fail
  refine HJ.out.mono ?_
  rintro e w2 ⟨rfl, hB2⟩
  have HB2 := Lib.hid (below2 hB1 hB2)
  clear hB1 hB2 HJ
  go_wp2_with fail
  refine (many_any _).mono ?_
  rintro e w3 ⟨p3, rfl, HT3, hB3⟩
  have HJ := Lib.hid (proveMan p3 w3 HT3)
  have hB3 := below2 HB2.out hB3
  clear HT3 HB2
  go_wp2_with fail
  refine HJ.out.mono ?_
  rintro e w4 ⟨rfl, hB4⟩
  have HB4 := Lib.hid (below2 hB3 hB4)
  clear hB3 hB4 HJ
  go_wp2_with fail
  have HX := Lib.hid (box_new w4 #[.int .u8 4, .int .i64 1, .int .i64 2] 45)
  have HB4 := Lib.hid (belowA HB4.out (.cells #[.int .u8 4, .int .i64 1, .int .i64 2] 45))
  refine (diamond_any _).mono ?_
  rintro e w5 ⟨p5, rfl, HT5, hB5⟩
  have HX := Lib.hid (heap_below HX.out hB5)
  have hB5 := below2 HB4.out hB5
  have HJ := Lib.hid (heightDia p5 w5 HT5)
  clear HT5 HB4
  go_wp2_with fail
  refine HJ.out.mono ?_
  rintro e w6 ⟨rfl, hB6⟩
  have HX := Lib.hid (heap_below HX.out hB6)
  have HB6 := Lib.hid (below2 hB5 hB6)
  clear hB5 hB6 HJ
  go_wp2_with fail
  refine (diamond_any _).mono ?_
  rintro e w7 ⟨p7, rfl, HT7, hB7⟩
  have HX := Lib.hid (heap_below HX.out hB7)
  have hB7 := below2 HB6.out hB7
  have HJ := Lib.hid (textDia p7 w7 HT7)
  clear HT7 HB6
  go_wp2_with fail
  refine HJ.out.mono ?_
  rintro e w8 ⟨rfl, hB8⟩
  have HX := Lib.hid (heap_below HX.out hB8)
  have HB8 := Lib.hid (below2 hB7 hB8)
  clear hB7 hB8 HJ
  go_wp2_with fail
  refine (diamond_any _).mono ?_
  rintro e w9 ⟨p9, rfl, HT9, hB9⟩
  have HX := Lib.hid (heap_below HX.out hB9)
  have hB9 := below2 HB8.out hB9
  have HJ := Lib.hid (partsDia p9 w9 HT9)
  clear HT9 HB8
  go_wp2_with fail
  refine HJ.out.mono ?_
  rintro e w10 ⟨⟨la, lc, rfl, hl⟩, hB10⟩
  have HX := Lib.hid (heap_below HX.out hB10)
  have HL := Lib.hid hl
  have HB10 := Lib.hid (below2 hB9 hB10)
  clear hB9 hB10 HJ hl
  go_wp2_with fail
  refine (shapeMap _ 1 _ (shp_laid w10)).mono ?_
  rintro e w11 ⟨rfl, hB11⟩
  have HB11 := Lib.hid (below2 (belowA (belowA HB10.out _) _) hB11)
  have hs := below2 (belowA (below1 w10 _) _) hB11
  have HX := Lib.hid (heap_below HX.out hs)
  have HL := Lib.hid (HL.out.below hs)
  clear hB11 HB10 hs
  have x0 : w11.cell? ⟨w4.heap.size, 0, none⟩ = some (.int .u8 4) := by rw [Lib.cell_of_heap HX.out]; rfl
  have x1 : w11.cell? ⟨w4.heap.size, 1, none⟩ = some (.int .i64 1) := by rw [Lib.cell_of_heap HX.out]; rfl
  have x2 : w11.cell? ⟨w4.heap.size, 2, none⟩ = some (.int .i64 2) := by rw [Lib.cell_of_heap HX.out]; rfl
  go_wp2_with fail
  have hb := below1 w11 (.cells #[.int .i64 1, .int .i64 2] 3)
  have hL := HL.out.below hb
  refine (sameInts_any la _ lc 2 [1, 2] [1, 2] _ (by decide) hL (cel_box (box_new w11 _ _) [1, 2] rfl)).mono ?_
  rintro e w12 ⟨rfl, hB12⟩
  have HB12 := Lib.hid (below2 (belowA HB11.out _) hB12)
  clear hB12 HB11 hL hb
  go_wp2_with fail
  go_ret
  exact ⟨rfl, HB12.out⟩
end Go.Proofs.Ytnhnjfoboepffaa

namespace Go.Proofs.Ytnhnjfoboepffaa
open Go.RowKit

/-- What Check and Prove answer is told by the table. -/
theorem prove_one (t : M.Tb) : ∃ (c : Int) (x : Nat × Nat × Nat) (f : Int), (∀ w E w', ChkPost t w E w' → E = .returned (.int .i64 c) ∧ Below w.heap.size w w') ∧ (∀ w E w', ProvePost t w E w' → E = .returned (.tuple #[brkV x, .int .i64 f]) ∧ Below w.heap.size w w') := by
  by_cases hf : M.form t
  · by_cases hk : (M.brk t).1 = 0
    · refine ⟨0, (0, 0, 0), 0, ?_, ?_⟩
      · rintro w E w' ⟨⟨_, rfl⟩ | ⟨h, _⟩, hB⟩
        · exact ⟨rfl, hB⟩
        · exact absurd hf h
      · rintro w E w' ⟨⟨h, _⟩ | ⟨_, h, _⟩ | ⟨_, _, rfl⟩, hB⟩
        · exact absurd hf h
        · exact absurd hk h
        · exact ⟨rfl, hB⟩
    · refine ⟨0, M.brk t, 12, ?_, ?_⟩
      · rintro w E w' ⟨⟨_, rfl⟩ | ⟨h, _⟩, hB⟩
        · exact ⟨rfl, hB⟩
        · exact absurd hf h
      · rintro w E w' ⟨⟨h, _⟩ | ⟨_, _, rfl⟩ | ⟨_, h, _⟩, hB⟩
        · exact absurd hf h
        · exact ⟨rfl, hB⟩
        · exact absurd (by rw [h]) hk
  · refine ⟨4, (0, 0, 0), 4, ?_, ?_⟩
    · rintro w E w' ⟨⟨h, _⟩ | ⟨_, rfl⟩, hB⟩
      · exact absurd h hf
      · exact ⟨rfl, hB⟩
    · rintro w E w' ⟨⟨_, rfl⟩ | ⟨h, _⟩ | ⟨h, _⟩, hB⟩
      · exact ⟨rfl, hB⟩
      · exact absurd h hf
      · exact absurd h hf

/-- What a table that is not more than the statements look at keeps to. -/
structure Small (t : M.Tb) : Prop where
  h1 : t.elems.length ≤ 1000000
  h2 : t.above.length ≤ 1000000
  h3 : t.wrong.length ≤ 1000000
  h4 : ∀ l, l ∈ t.above → l.length ≤ 1000000
  hs : t.name.size ≤ maxLen
  hes : ∀ s, s ∈ t.elems → s.size ≤ maxLen
theorem small_of {t : M.Tb} (h : M.thinB t = true) : Small t := by
  obtain ⟨⟨a, b, c, d⟩, e, f⟩ := M.thin_parts.1 h
  exact ⟨by omega, by omega, by omega, fun l hl => by have := f l hl; omega, by unfold maxLen; omega, fun s hs => by have := e s hs; unfold maxLen; omega⟩

end Go.Proofs.Ytnhnjfoboepffaa

namespace Go.Proofs.Ytnhnjfoboepffaa
open Go.RowKit

theorem inB_nat {n a : Nat} (h : a < n) : M.inB n (a : Int) = true := by unfold M.inB; simp; omega

set_option maxHeartbeats 4000000 in
set_option maxRecDepth 100000 in
theorem lawJoin_any (t : M.Tb) (p : Tp) (a b : Nat) (w : World) (hs : Small t) (hl : M.lat t) (ha : a < t.elems.length) (hb : b < t.elems.length) (ht : TbIn w t p) :
    Calls Try.prog 21 #[tbV t p, .int .i64 a, .int .i64 b] w fun e w' => e = .returned (.int .i64 (M.jnD t a b : Nat)) ∧ Below w.heap.size w w' := by
  have HC := Lib.hid (copy_any t p (w.alloc (.cells (tbA t p) 26)) hs.h1 hs.h2 hs.h3 hs.h4 (ht.below (below1 _ _)))
  have HX := Lib.hid (tbBox (t := t) (p := p) (box_new w (tbA t p) 26))
  have HS := Lib.hid hs
  have HL := Lib.hid hl
  have HIN := Lib.hid (show (M.inB t.elems.length (a : Int) && M.inB t.elems.length (b : Int)) = true by rw [inB_nat ha, inB_nat hb]; rfl)
  have HJ := Lib.hid (inB_nat (M.jnD_is (M.lat_good hl) ha hb).lt)
  obtain ⟨c0, c1, c2, c3⟩ := HX.out
  clear ht hs hl
  go_enter Try.func21, Try.ntmps21
  go_wp2_with fail
  refine HC.out.mono ?_
  rintro e w1 ⟨p', rfl, ht1, hB1⟩
  have HX := Lib.hid (HX.out.below hB1)
  have HB1 := Lib.hid (below2 (below1 w (.cells (tbA t p) 26)) hB1)
  clear c0 c1 c2 c3 hB1 HC
  go_wp2_with fail
  refine (joinX_any t p' a b w1 HS.out.h4 ht1).mono ?_
  rintro e w2 ⟨⟨h, _⟩ | ⟨_, h, _⟩ | ⟨_, h, _⟩ | ⟨_, _, rfl⟩, hB2⟩
  · exact absurd HL.out.1 h
  · exact absurd (by rw [HL.out.2]) h
  · rw [HIN.out] at h; cases h
  · have HX := Lib.hid (HX.out.below hB2)
    have HB2 := Lib.hid (below2 HB1.out hB2)
    rw [Int.toNat_natCast, Int.toNat_natCast]
    clear hB2 ht1 HB1
    obtain ⟨c0, c1, c2, c3⟩ := HX.out
    go_wp2_with fail
    refine (isElem_any t p _ w2 HS.out.h1).mono ?_
    rintro e w3 ⟨rfl, hB3⟩
    have hB := below2 HB2.out hB3
    rw [HJ.out]
    clear c0 c1 c2 c3 hB3
    go_wp2_with fail
    go_ret
    exact ⟨rfl, hB⟩
end Go.Proofs.Ytnhnjfoboepffaa

namespace Go.Proofs.Ytnhnjfoboepffaa
open Go.RowKit

namespace M
theorem jnD_of {t : Tb} (h : good t) {a b c : Nat} (ha : a < t.elems.length) (hb : b < t.elems.length) (hj : isJ t a b c) : jnD t a b = c := isJ_one h (jnD_is h ha hb) hj
theorem jnD_le {t : Tb} (h : good t) {a b : Nat} (ha : a < t.elems.length) (hb : b < t.elems.length) (hl : leB t a b = true) : jnD t a b = b :=
  jnD_of h ha hb ⟨hb, hl, leB_refl h.form hb, fun _ _ h2 => h2⟩
theorem jnD_iff {t : Tb} (h : good t) {a b : Nat} (ha : a < t.elems.length) (hb : b < t.elems.length) : decide (jnD t a b = b) = leB t a b := by
  cases hl : leB t a b with
  | true => exact decide_eq_true (jnD_le h ha hb hl)
  | false =>
    refine decide_eq_false fun e => ?_
    have := (jnD_is h ha hb).l
    rw [e, hl] at this
    cases this
theorem jnD_assoc {t : Tb} (h : good t) {a b c : Nat} (ha : a < t.elems.length) (hb : b < t.elems.length) (hc : c < t.elems.length) : jnD t a (jnD t b c) = jnD t (jnD t a b) c := by
  have h1 := jnD_is h hb hc
  have h2 := jnD_is h ha hb
  have h3 := jnD_is h h2.lt hc
  refine jnD_of h ha h1.lt ⟨h3.lt, leB_trans h.form ha h2.l h3.l, ?_, fun d k1 k2 => ?_⟩
  · exact h1.least _ (leB_trans h.form hb h2.r h3.l) h3.r
  · exact h3.least d (h2.least d k1 (leB_trans h.form hb h1.l k2)) (leB_trans h.form hc h1.r k2)
theorem jnD_zero {t : Tb} (h : good t) {a : Nat} (ha : a < t.elems.length) : jnD t a 0 = a := by
  have h0 : 0 < t.elems.length := by omega
  rw [jnD_comm]
  exact jnD_le h h0 ha (h.nb.base a ha)
theorem jnD_wrong {t : Tb} (h : good t) {a b : Nat} (ha : a < t.elems.length) (hb : b < t.elems.length) (hw : wr t a = true) : wr t (jnD t a b) = true :=
  h.wrong a ha _ (jnD_is h ha hb).lt hw (jnD_is h ha hb).l
end M

theorem lawJoin0_any (t : M.Tb) (p : Tp) (a : Nat) (w : World) (hs : Small t) (hl : M.lat t) (ha : a < t.elems.length) (ht : TbIn w t p) :
    Calls Try.prog 21 #[tbV t p, .int .i64 a, .int .i64 0] w fun e w' => e = .returned (.int .i64 a) ∧ Below w.heap.size w w' := by
  have h := lawJoin_any t p a 0 w hs hl ha (by omega) ht
  rw [M.jnD_zero (M.lat_good hl) ha] at h
  exact h

set_option maxHeartbeats 4000000 in
set_option maxRecDepth 100000 in
theorem right_any (t : M.Tb) (p : Tp) (w : World) (ht : TbIn w t p) : Calls Try.prog 14 #[tbV t p] w fun e w' => ((Small t ∧ M.lat t ∧ e = .returned (.bool true)) ∨ e = .returned (.bool false)) ∧ Below w.heap.size w w' := by
  have HX := Lib.hid (tbBox (t := t) (p := p) (box_new w (tbA t p) 26))
  have HT := Lib.hid ht
  have HC := Lib.hid (thinT_any t p (w.alloc (.cells (tbA t p) 26)) (ht.below (below1 _ _)))
  obtain ⟨c0, c1, c2, c3⟩ := HX.out
  clear ht
  go_enter Try.func14, Try.ntmps14
  go_wp2_with fail
  refine HC.out.mono ?_
  rintro e w1 ⟨rfl, hB1⟩
  have HB1 := Lib.hid (below2 (below1 w (.cells (tbA t p) 26)) hB1)
  have HX := Lib.hid (HX.out.below hB1)
  clear c0 c1 c2 c3 hB1 HC
  cases hth : M.thinB t with
  | false =>
    go_wp2_with fail
    go_ret
    exact ⟨Or.inr rfl, HB1.out⟩
  | true =>
    have HS := Lib.hid (small_of hth)
    clear hth
    obtain ⟨c0, c1, c2, c3⟩ := HX.out
    go_wp2_with fail
    refine (refIsLattice_any t p w1 HS.out.hs HS.out.hes HS.out.h4 (HT.out.below HB1.out)).mono ?_
    rintro e w2 ⟨⟨_, rfl⟩ | ⟨_, _, rfl⟩ | ⟨hl, rfl⟩, hB2⟩
    · have hB := below2 HB1.out hB2
      clear c0 c1 c2 c3 hB2
      go_wp2_with fail
      go_ret
      exact ⟨Or.inr rfl, hB⟩
    · have hB := below2 HB1.out hB2
      clear c0 c1 c2 c3 hB2
      go_wp2_with fail
      go_ret
      exact ⟨Or.inr rfl, hB⟩
    · have hB := below2 HB1.out hB2
      have HL := Lib.hid hl
      clear c0 c1 c2 c3 hB2 hl
      go_wp2_with fail
      go_ret
      exact ⟨Or.inl ⟨HS.out, HL.out, rfl⟩, hB⟩
end Go.Proofs.Ytnhnjfoboepffaa

namespace Go.Proofs.Ytnhnjfoboepffaa
namespace M
/-- A table whose elements are those of another one in another order. -/
structure Iso (t u : Tb) (tu au : Nat → Nat) : Prop where
  len : u.elems.length = t.elems.length
  tl : ∀ a, a < t.elems.length → tu a < t.elems.length
  al : ∀ a, a < t.elems.length → au a < t.elems.length
  ta : ∀ a, a < t.elems.length → tu (au a) = a
  aT : ∀ a, a < t.elems.length → au (tu a) = a
  z : tu 0 = 0
  up_ : ∀ a b, a < t.elems.length → b < t.elems.length → (up t a b ↔ up u (tu a) (tu b))
  wr_ : ∀ a, a < t.elems.length → wr u (tu a) = wr t a
theorem Iso.symm {t u : Tb} {tu au : Nat → Nat} (h : Iso t u tu au) (h0 : 0 < t.elems.length) : Iso u t au tu := by
  have hl := h.len
  refine ⟨hl.symm, fun a ha => by rw [hl]; exact h.al a (by omega), fun a ha => by rw [hl]; exact h.tl a (by omega), fun a ha => h.aT a (by omega), fun a ha => h.ta a (by omega), ?_, fun a b ha hb => ?_, fun a ha => ?_⟩
  · have := h.aT 0 h0
    rw [h.z] at this; exact this
  · have := h.up_ (au a) (au b) (h.al a (by omega)) (h.al b (by omega))
    rw [h.ta a (by omega), h.ta b (by omega)] at this
    exact this.symm
  · have := h.wr_ (au a) (h.al a (by omega))
    rw [h.ta a (by omega)] at this
    exact this.symm
theorem Iso.stp {t u : Tb} {tu au : Nat → Nat} (h : Iso t u tu au) (hf : form t) {a b : Nat} (ha : a < t.elems.length) (hs : Stp t a b) : Stp u (tu a) (tu b) := by
  induction hs with
  | one q => exact .one ((h.up_ _ _ ha (up_lt hf ha q)).1 q)
  | more q1 q2 ih => exact .more ih ((h.up_ _ _ (q1.lt hf ha) (up_lt hf (q1.lt hf ha) q2)).1 q2)
theorem Iso.st {t u : Tb} {tu au : Nat → Nat} (h : Iso t u tu au) (hf : form t) (hu : form u) {a b : Nat} (ha : a < t.elems.length) (hb : b < t.elems.length) : stB u (tu a) (tu b) = stB t a b := by
  have hl := h.len
  rw [Bool.eq_iff_iff, stB_iff hu (by rw [hl]; exact h.tl a ha), stB_iff hf ha]
  refine ⟨fun q => ?_, h.stp hf ha⟩
  have := (h.symm hf.one).stp hu (by rw [hl]; exact h.tl a ha) q
  rw [h.aT a ha, h.aT b hb] at this
  exact this
theorem Iso.inj {t u : Tb} {tu au : Nat → Nat} (h : Iso t u tu au) {a b : Nat} (ha : a < t.elems.length) (hb : b < t.elems.length) (e : tu a = tu b) : a = b := by
  rw [← h.aT a ha, ← h.aT b hb, e]
theorem Iso.le {t u : Tb} {tu au : Nat → Nat} (h : Iso t u tu au) (hf : form t) (hu : form u) {a b : Nat} (ha : a < t.elems.length) (hb : b < t.elems.length) : leB u (tu a) (tu b) = leB t a b := by
  rw [leB_or hu (by rw [h.len]; exact h.tl a ha), leB_or hf ha, h.st hf hu ha hb]
  congr 1
  rw [decide_eq_decide]
  exact ⟨h.inj ha hb, fun e => by rw [e]⟩
theorem Iso.isJ {t u : Tb} {tu au : Nat → Nat} (h : Iso t u tu au) (hf : form t) (hu : form u) {a b c : Nat} (ha : a < t.elems.length) (hb : b < t.elems.length) (hj : isJ t a b c) : isJ u (tu a) (tu b) (tu c) := by
  have hl := h.len
  refine ⟨by rw [hl]; exact h.tl c hj.lt, by rw [h.le hf hu ha hj.lt]; exact hj.l, by rw [h.le hf hu hb hj.lt]; exact hj.r, fun d h1 h2 => ?_⟩
  have hd : d < t.elems.length := by rw [← hl]; exact leB_lt hu (by rw [hl]; exact h.tl a ha) h1
  rw [← h.ta d hd] at h1 h2 ⊢
  have hd' := h.al d hd
  rw [h.le hf hu ha hd'] at h1
  rw [h.le hf hu hb hd'] at h2
  rw [h.le hf hu hj.lt hd']
  exact hj.least _ h1 h2
theorem Iso.good {t u : Tb} {tu au : Nat → Nat} (h : Iso t u tu au) (hu : form u) (hg : good t) : good u := by
  have hl := h.len
  have hf := hg.form
  refine ⟨hu, ⟨fun j hj => ?_, fun j hj => ?_, fun a ha b hab hb hn => ?_⟩, ?_, fun a ha b hb hw hle => ?_⟩
  · have hj' : j < t.elems.length := by omega
    have := h.st hf hu (h.al j hj') (h.al j hj')
    rw [h.ta j hj', hg.nb.cyc _ (h.al j hj')] at this
    exact this
  · have hj' : j < t.elems.length := by omega
    have := h.le hf hu hf.one (h.al j hj')
    rw [h.ta j hj', h.z, hg.nb.base _ (h.al j hj')] at this
    exact this
  · have ha' : a < t.elems.length := by omega
    have hb' : b < t.elems.length := by omega
    have q := h.isJ hf hu (h.al a ha') (h.al b hb') (jnD_is hg (h.al a ha') (h.al b hb'))
    rw [h.ta a ha', h.ta b hb'] at q
    obtain ⟨d, _, h1, h2, h3⟩ := jn_none hn q.lt q.l q.r
    rw [q.least d h1 h2] at h3
    cases h3
  · have := h.wr_ 0 hf.one
    rw [h.z, hg.zero] at this
    exact this
  · have ha' : a < t.elems.length := by omega
    have hb' : b < t.elems.length := by omega
    rw [← h.ta a ha'] at hw hle
    rw [← h.ta b hb'] at hle ⊢
    rw [h.wr_ _ (h.al a ha')] at hw
    rw [h.le hf hu (h.al a ha') (h.al b hb')] at hle
    rw [h.wr_ _ (h.al b hb')]
    exact hg.wrong _ (h.al a ha') _ (h.al b hb') hw hle
theorem Iso.good_iff {t u : Tb} {tu au : Nat → Nat} (h : Iso t u tu au) (hf : form t) (hu : form u) : M.good t ↔ M.good u :=
  ⟨h.good hu, (h.symm hf.one).good hf⟩
theorem Iso.jn_ {t u : Tb} {tu au : Nat → Nat} (h : Iso t u tu au) (hu : form u) (hg : M.good t) {a b : Nat} (ha : a < t.elems.length) (hb : b < t.elems.length) : jnD u (tu a) (tu b) = tu (jnD t a b) :=
  jnD_of (h.good hu hg) (by rw [h.len]; exact h.tl a ha) (by rw [h.len]; exact h.tl b hb) (h.isJ hg.form hu ha hb (jnD_is hg ha hb))
end M
end Go.Proofs.Ytnhnjfoboepffaa
