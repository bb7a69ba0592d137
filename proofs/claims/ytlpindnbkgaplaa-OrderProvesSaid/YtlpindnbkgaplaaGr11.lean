/- Texts of one's own, joined: OrdAq, OrdBb, OrdBc, BasI, BasJ, OrdBd. -/
import Derived.Test.YtlpindnbkgaplaaGr10
import Derived.Test.YtlpindnbkgaplaaGr3
import Derived.Test.YtlpindnbkgaplaaGr4
import Derived.Test.YtlpindnbkgaplaaGr9
import Derived.Maps.AppendAt
import Derived.Laws.OwnMore
import Derived.Laws.AppendOwnNone
import Derived.OrdersHeld
import Derived.Test.YtlpindnbkgaplaaGr7
import Derived.Deep.RegionHeldLaw
namespace Go.Proofs.Ytlpindnbkgaplaa
open Go.RowKit

namespace M
def lit1 : List UInt8 := [108, 97, 116, 116, 105, 99, 101, 32]
def lit2 : List UInt8 := [32, 123, 32]
def elTs (t : Tb) (k : Nat) : List (List UInt8) := (List.range k).map (elT t)
theorem elTs_len (t : Tb) (k : Nat) : (elTs t k).length = k := by simp [elTs]
theorem elTs_next (t : Tb) (k : Nat) : elTs t (k + 1) = elTs t k ++ [elT t k] := by simp [elTs, List.range_succ]
/-- The text of a table. -/
def txt (t : Tb) : List UInt8 := lit1 ++ bl t.name ++ lit2 ++ Lib.join (elTs t t.elems.length) [59, 32] ++ [32, 125]
theorem join_len (xs : List (List UInt8)) (sep : List UInt8) (n : Nat) (h : ∀ x, x ∈ xs → x.length ≤ n) : (Lib.join xs sep).length ≤ xs.length * (n + sep.length) := by
  cases xs with
  | nil => rw [Lib.join_nil]; simp
  | cons x r =>
    rw [Lib.join_cons, List.length_append]
    have h1 := h x List.mem_cons_self
    have h2 : (Lib.joinTail sep r).length ≤ r.length * (n + sep.length) := by
      unfold Lib.joinTail
      have hr : ∀ y, y ∈ r → y.length ≤ n := fun y hy => h y (List.mem_cons_of_mem _ hy)
      clear h h1
      induction r with
      | nil => simp
      | cons y r ih =>
        have := ih (fun z hz => hr z (List.mem_cons_of_mem _ hz))
        have hy := hr y List.mem_cons_self
        rw [List.map_cons, List.flatten_cons, List.length_append, List.length_append, List.length_cons, Nat.add_mul, Nat.one_mul]
        omega
    rw [List.length_cons, Nat.add_mul, Nat.one_mul]
    omega
end M
/-- What Text comes to. -/
def TextPost (t : M.Tb) (w : World) (e : Ending) (w' : World) : Prop :=
  ((¬ M.form t ∧ e = .returned (.tuple #[.string ⟨#[]⟩, .int .i64 4])) ∨ (M.form t ∧ e = .returned (.tuple #[.string (bs (M.txt t)), .int .i64 0]))) ∧ Below w.heap.size w w'
theorem tp_1 {t : M.Tb} {w w' : World} (h : ¬ M.form t) (hB : Below w.heap.size w w') : TextPost t w (.returned (.tuple #[.string ⟨#[]⟩, .int .i64 4])) w' := ⟨Or.inl ⟨h, rfl⟩, hB⟩
theorem tp_2 {t : M.Tb} {w w' : World} {s : ByteArray} (h : M.form t) (hs : bl s = M.txt t) (hB : Below w.heap.size w w') : TextPost t w (.returned (.tuple #[.string s, .int .i64 0])) w' := ⟨Or.inr ⟨h, by rw [← hs, bs_bl]⟩, hB⟩
set_option maxHeartbeats 8000000 in
set_option maxRecDepth 100000 in
theorem text_any (t : M.Tb) (p : Tp) (w : World) (hal : ∀ l, l ∈ t.above → l.length ≤ 1000000) (ht : TbIn w t p) : Calls Try.prog 21 #[tbV t p] w (TextPost t w) := by
  obtain ⟨i0, hi, hz0, hz1, hz2⟩ := info_parts strInfo
  have HI0 := Lib.hid hi
  have HZ0 := Lib.hid hz0
  have HZ1 := Lib.hid hz1
  have HZ2 := Lib.hid hz2
  clear hi hz0 hz1 hz2
  have HW := Lib.hid (below1 w (.cells (tbA t p) 26))
  have HT := Lib.hid (ht.below HW.out)
  have HX := Lib.hid (tbBox (t := t) (p := p) (box_new w (tbA t p) 26))
  have HC := Lib.hid (check_any t p (w.alloc (.cells (tbA t p) 26)) hal (ht.below HW.out))
  obtain ⟨c0, c1, c2, c3⟩ := HX.out
  clear ht hal
  go_enter Try.func21, Try.ntmps21
  go_wp2_with fail
  refine HC.out.mono ?_
  rintro e w1 ⟨⟨hf, rfl⟩ | ⟨hf, rfl⟩, hB1⟩
  · have HF := Lib.hid hf
    have h12 := hf.twelve
    have hone := hf.one
    have HROW := Lib.hid (fun a (ha : a < t.elems.length) => row_short hf ha)
    have hB := below2 HW.out hB1
    have HB1 := Lib.hid hB1
    have HX1 := Lib.hid (HX.out.below hB1)
    clear hf hB1 c0 c1 c2 c3
    obtain ⟨x0, x1, x2, x3⟩ := HX1.out
    go_wp2_with fail
    clear x0 x1 x2 x3
    go_loopw [5, 15] (fun v i wr => ∃ k : Nat, k ≤ t.elems.length ∧ i = .int .i64 k ∧ Hid (wr.ownsRow w1.heap.size 9 1 v k (txtCs (M.elTs t k))) ∧ Below w1.heap.size w1 wr) (fun _ i _ => t.elems.length - (intOf i).toNat)
    case atStart => exact ⟨0, by omega, rfl, Lib.hid ⟨rfl, Or.inl ⟨rfl, rfl⟩⟩, Below.refl _ _⟩
    case round =>
      rename_i wr
      obtain ⟨k, hk, rfl, HO, hBr⟩ := hrel
      obtain ⟨av, ac, hv⟩ := own_slice HO.out
      subst hv
      have hz := hBr.size
      by_cases hkl : k < t.elems.length
      · obtain ⟨y0, y1, y2, y3⟩ := HX1.out.below hBr
        have n1 : (k : Int) < (t.elems.length : Int) := by omega
        have HE := Lib.hid (elemText_any t p k wr (HT.out.below (below2 HB1.out hBr)) HF.out hkl)
        go_wp2_with fail
        refine HE.out.mono ?_
        rintro e w2 ⟨rfl, hB2⟩
        have hz2' := hB2.size
        have HO2 := Lib.hid (own_below HO.out hB2)
        have hBr2 := hBr.trans (hB2.mono hz)
        obtain ⟨sx, hsx⟩ : ∃ sx, bs (M.elT t k) = sx := ⟨_, rfl⟩
        have hn := M.elTs_next t k
        have hcs : txtCs (M.elTs t (k + 1)) = txtCs (M.elTs t k) ++ [.string sx] := by rw [hn, txtCs_snoc, hsx]
        have HN := Lib.hid hcs
        rw [hsx]
        have hi := HI0.out
        have hz0 := HZ0.out
        have hz1 := HZ1.out
        have hz2 := HZ2.out
        clear hn hcs hsx hB2 y0 y1 y2 y3
        go_wp2_with (at_builtin; refine wpList_append_own _ rfl _ _ 22 rfl w1.heap.size 9 i0 (.string ⟨#[]⟩) 1 16 Try.underlying22 hi hz0 hz1 hz2 rfl (by decide) _ _ _ rfl (HO2.out.alloc _) ⟨w2.heap.size, 0, none⟩ 1 1 [.string sx] rfl rfl ?c1 ?c2 ?c3 ?c4 ?c5 ?_)
        case c1 =>
          intro j u hj
          match j, hj with
          | 0, hj => simp at hj; subst hj; simp [Addr.add]
        case c2 => intro u hu; simp at hu; subst hu; rfl
        case c3 => unfold maxLen; omega
        case c4 => omega
        case c5 => simp; omega
        intro v' w3 hown3 hgrow _
        have hB3 : Below w1.heap.size w1 w3 := (hBr2.alloc (by omega) _).grown hgrow (by simp; omega) (fun j hj => (HO2.out.lt j hj).1)
        have R1 := Lib.hid hown3
        clear hown3 hgrow hi hz0 hz1 hz2
        obtain ⟨bv, bc, rfl⟩ := own_slice R1.out
        go_wp2_with fail
        go_roundw
        case rel =>
          refine ⟨k + 1, by omega, by go_num, Lib.hid ?_, hB3⟩
          rw [HN.out]
          exact R1.out
        case measure => simp [intOf]; omega
      · obtain rfl : k = t.elems.length := by omega
        have m1 : decide ((t.elems.length : Int) < (t.elems.length : Int)) = false := decide_eq_false (by omega)
        obtain ⟨jb, jc, e, hjc, hjb, hcell⟩ := own_txt (M.elTs_len t t.elems.length) HO.out (by omega)
        obtain ⟨rfl, rfl⟩ : av = some ⟨jb, 0, none⟩ ∧ jc = ac := by cases e; exact ⟨rfl, rfl⟩
        obtain ⟨y0, y1, y2, y3⟩ := HX1.out.below hBr
        have hxs : ((M.elTs t t.elems.length).map bs).length = t.elems.length := by rw [List.length_map, M.elTs_len]
        have hmap : ((M.elTs t t.elems.length).map bs).map (fun x => x.data.toList) = M.elTs t t.elems.length := by rw [List.map_map]; exact (List.map_congr_left fun x _ => bl_bs x).trans (List.map_id _)
        have hjl : (Lib.join (M.elTs t t.elems.length) [59, 32]).length ≤ 2200 := by
          have h := M.join_len (M.elTs t t.elems.length) [59, 32] 181 (fun x hx => by
            unfold M.elTs at hx
            obtain ⟨a, ha, rfl⟩ := List.mem_map.1 hx
            exact M.elT_len HF.out a (HROW.out a (List.mem_range.1 ha)))
          rw [M.elTs_len] at h
          have : t.elems.length * (181 + [59, 32].length) ≤ 12 * 183 := Nat.mul_le_mul h12 (Nat.le_refl _)
          omega
        have hcall := fun W (hc : ∀ (j : Nat) (x : ByteArray), ((M.elTs t t.elems.length).map bs)[j]? = some x → W.cell? ⟨jb, 0 + j, none⟩ = some (.string x)) (hb : jb < W.heap.size) => Try.strings_Join jb 0 jc ((M.elTs t t.elems.length).map bs) ⟨#[59, 32]⟩ W hc hb (by rw [hxs]; omega) (by rw [hxs]; exact hjc) (by rw [hmap]; exact Nat.le_trans hjl (by omega))
        rw [hxs, hmap] at hcall
        have hnm : t.name.size ≤ 12 := by
          have := HF.out.name
          unfold M.isTabB M.isNameB at this
          simp only [Bool.and_eq_true, decide_eq_true_eq] at this
          rw [M.size_list] at this
          exact this.1.1.1.2
        have hJ := show bl (bs (Lib.join (M.elTs t t.elems.length) [59, 32])) = Lib.join (M.elTs t t.elems.length) [59, 32] from bl_bs _
        obtain ⟨J, hJe⟩ : ∃ J, bs (Lib.join (M.elTs t t.elems.length) [59, 32]) = J := ⟨_, rfl⟩
        have hcall2 : ∀ W, (∀ (j : Nat) (x : ByteArray), ((M.elTs t t.elems.length).map bs)[j]? = some x → W.cell? ⟨jb, 0 + j, none⟩ = some (.string x)) → jb < W.heap.size → Calls Try.prog 50 #[.slice (some ⟨jb, 0, none⟩) t.elems.length jc, .string ⟨#[59, 32]⟩] W fun e w' => e = .returned (.string J) ∧ Below W.heap.size W w' := fun W h1 h2 => by rw [← hJe]; exact hcall W h1 h2
        rw [hJe] at hJ
        have hJs : J.size ≤ 2200 := by rw [← bl_len, hJ]; exact hjl
        have HCJ := Lib.hid hcall2
        have HCELL := Lib.hid hcell
        have HTX := Lib.hid (show bl (((((⟨#[108, 97, 116, 116, 105, 99, 101, 32]⟩ : ByteArray) ++ t.name) ++ ⟨#[32, 123, 32]⟩) ++ J) ++ ⟨#[32, 125]⟩) = M.txt t from by
          rw [bl_cat, bl_cat, bl_cat, bl_cat, hJ]; rfl)
        have z1 : ¬ 9223372036854775807 < 8 + t.name.size := by omega
        have z2 : ¬ 9223372036854775807 < 8 + t.name.size + 3 := by omega
        have z3 : ¬ 9223372036854775807 < 8 + t.name.size + 3 + J.size := by omega
        have z4 : ¬ 9223372036854775807 < 8 + t.name.size + 3 + J.size + 2 := by omega
        have hBt := below2 hB hBr
        clear hcall hcall2 hjl hmap hxs hJ hJe hcell HROW e
        go_wp2_with fail
        go_region_with (go_at_call 50; refine (HCJ.out wr.drew HCELL.out hjb).mono ?_; rintro e w5 ⟨rfl, hB5⟩; have q0 := cell_below (w := wr.drew) y0 hB5)
        all_goals
          have hB6 := below2 hBt.drew hB5
          clear hB5
          go_wp2_with fail

          go_ret2
          exact tp_2 HF.out HTX.out hB6
  · have HF := Lib.hid hf
    have hB := below2 HW.out hB1
    clear hf hB1 c0 c1 c2 c3
    go_wp2_with fail
    go_ret2
    exact tp_1 HF.out hB
end Go.Proofs.Ytlpindnbkgaplaa

namespace Go.Proofs.Ytlpindnbkgaplaa
open Go.RowKit
namespace M
theorem asc_of {n : Nat} {l : List Int} (h : (∀ k, k < l.length → 0 ≤ l.getD k 0 ∧ l.getD k 0 < n ∧ (0 < k → l.getD (k - 1) 0 < l.getD k 0))) : asc n l := by
  intro k hk
  have := h k hk
  have hk' : k - 1 < l.length := by omega
  simp only [List.getD_eq_getElem?_getD, List.getElem?_eq_getElem hk, List.getElem?_eq_getElem hk', Option.getD_some] at this
  exact this
theorem form_of {t : Tb} (h1 : isTabB t.name = true) (h2 : 1 ≤ t.elems.length ∧ t.elems.length ≤ 12 ∧ t.above.length = t.elems.length ∧ t.wrong.length = t.elems.length)
    (h3 : t.elems.all (fun s => isNameB s.data.toList) = true) (h4 : ∀ i, i < t.elems.length → ∀ j, j < t.elems.length → i < j → (t.elems.getD i ⟨#[]⟩).data.toList ≠ (t.elems.getD j ⟨#[]⟩).data.toList)
    (h5 : ∀ i, i < t.above.length → ∀ k, k < (t.above.getD i []).length → 0 ≤ (t.above.getD i []).getD k 0 ∧ (t.above.getD i []).getD k 0 < t.elems.length ∧ (0 < k → (t.above.getD i []).getD (k - 1) 0 < (t.above.getD i []).getD k 0)) : form t := by
  refine ⟨h1, h2.1, h2.2.1, h2.2.2.1, h2.2.2.2, fun i hi => ?_, fun i j hi hj hij e => ?_, fun i hi => ?_⟩
  · rw [List.all_eq_true] at h3
    exact h3 _ (List.getElem_mem hi)
  · apply h4 i hi j hj hij
    simp only [List.getD_eq_getElem?_getD, List.getElem?_eq_getElem hi, List.getElem?_eq_getElem hj, Option.getD_some, e]
  · have := asc_of (h5 i hi)
    rw [List.getD_eq_getElem?_getD, List.getElem?_eq_getElem hi, Option.getD_some] at this
    exact this
theorem dia_form : form dia := form_of (by decide +kernel) (by decide +kernel) (by decide +kernel) (by decide +kernel) (by decide +kernel)
theorem man_form : form man := form_of (by decide +kernel) (by decide +kernel) (by decide +kernel) (by decide +kernel) (by decide +kernel)
theorem dia_brk : brk dia = (0, 0, 0) := by decide +kernel
theorem man_brk : brk man = (4, 1, 2) := by decide +kernel
theorem dia_jn : jnD dia 1 2 = 3 := by decide +kernel
theorem dia_prt : listN (prt dia 3) 12 = [1, 2] := by decide +kernel
theorem dia_txt : txt dia = [108, 97, 116, 116, 105, 99, 101, 32, 108, 32, 123, 32, 97, 58, 32, 98, 44, 32, 99, 59, 32, 98, 58, 32, 100, 59, 32, 99, 58, 32, 100, 59, 32, 100, 33, 32, 125] := by decide +kernel
theorem dia_h : isH dia 0 2 := isH_it dia_form (by decide +kernel) (by decide +kernel) (by decide +kernel)
def shp : Sh := .mk 6 ⟨#[]⟩ [.mk 7 ⟨#[]⟩ [.mk 1 ⟨#[]⟩ [], .mk 5 ⟨#[108]⟩ []]]
theorem shp_deep : deepB shp 4 = false := by decide +kernel
theorem shp_ok : shp.okB = true := by decide +kernel
theorem shp_txt : shp.txt = [109, 97, 112, 40, 112, 97, 105, 114, 40, 102, 108, 97, 103, 44, 32, 108, 41, 41] := by decide +kernel
end M
end Go.Proofs.Ytlpindnbkgaplaa

namespace Go.Proofs.Ytlpindnbkgaplaa
open Go.RowKit

theorem dia_al : ∀ l, l ∈ M.dia.above → l.length ≤ 1000000 := by decide +kernel
theorem man_al : ∀ l, l ∈ M.man.above → l.length ≤ 1000000 := by decide +kernel
theorem dia_nz : ¬ (M.brk M.dia).1 ≠ 0 := by rw [M.dia_brk]; simp
theorem joinDia (p : Tp) (w : World) (ht : TbIn w M.dia p) : Calls Try.prog 27 #[tbV M.dia p, .int .i64 1, .int .i64 2] w fun e w' => e = .returned (.tuple #[.int .i64 3, .int .i64 0]) ∧ Below w.heap.size w w' := by
  refine (joinX_any M.dia p 1 2 w dia_al ht).mono ?_
  rintro e w' ⟨⟨hf, _⟩ | ⟨_, hk, _⟩ | ⟨_, hin, _⟩ | ⟨_, _, rfl⟩, hB⟩
  · exact absurd M.dia_form hf
  · exact absurd hk dia_nz
  · exact absurd hin (by decide +kernel)
  · refine ⟨?_, hB⟩
    rw [show M.jnD M.dia (Int.toNat 1) (Int.toNat 2) = 3 from M.dia_jn]; rfl
theorem proveMan (p : Tp) (w : World) (ht : TbIn w M.man p) : Calls Try.prog 11 #[tbV M.man p] w fun e w' => e = .returned (.tuple #[.agg #[.int .u8 4, .int .i64 1, .int .i64 2], .int .i64 12]) ∧ Below w.heap.size w w' := by
  refine (prove_any M.man p w man_al ht).mono ?_
  rintro e w' ⟨⟨hf, _⟩ | ⟨_, hk, rfl⟩ | ⟨_, hk, _⟩, hB⟩
  · exact absurd M.man_form hf
  · refine ⟨?_, hB⟩
    rw [M.man_brk]; rfl
  · rw [M.man_brk] at hk; cases hk
theorem heightDia (p : Tp) (w : World) (ht : TbIn w M.dia p) : Calls Try.prog 30 #[tbV M.dia p] w fun e w' => e = .returned (.tuple #[.int .i64 2, .int .i64 0]) ∧ Below w.heap.size w w' := by
  refine (heightX_any M.dia p w dia_al ht).mono ?_
  rintro e w' ⟨⟨hf, _⟩ | ⟨_, hk, _⟩ | ⟨_, k, hk, rfl⟩, hB⟩
  · exact absurd M.dia_form hf
  · exact absurd hk dia_nz
  · obtain rfl := M.isH_one hk M.dia_h
    exact ⟨rfl, hB⟩
theorem textDia (p : Tp) (w : World) (ht : TbIn w M.dia p) : Calls Try.prog 21 #[tbV M.dia p] w fun e w' => e = .returned (.tuple #[.string ⟨#[108, 97, 116, 116, 105, 99, 101, 32, 108, 32, 123, 32, 97, 58, 32, 98, 44, 32, 99, 59, 32, 98, 58, 32, 100, 59, 32, 99, 58, 32, 100, 59, 32, 100, 33, 32, 125]⟩, .int .i64 0]) ∧ Below w.heap.size w w' := by
  refine (text_any M.dia p w dia_al ht).mono ?_
  rintro e w' ⟨⟨hf, _⟩ | ⟨_, rfl⟩, hB⟩
  · exact absurd M.dia_form hf
  · refine ⟨?_, hB⟩
    rw [M.dia_txt]; rfl
theorem partsDia (p : Tp) (w : World) (ht : TbIn w M.dia p) : Calls Try.prog 31 #[tbV M.dia p, .int .i64 3] w fun e w' => (∃ la c, e = .returned (.tuple #[.slice la 2 c, .int .i64 0]) ∧ IntSl w' la [1, 2]) ∧ Below w.heap.size w w' := by
  refine (partsX_any M.dia p 3 w dia_al ht).mono ?_
  rintro e w' ⟨⟨hf, _⟩ | ⟨_, hk, _⟩ | ⟨_, hin, _⟩ | ⟨_, _, la, c, rfl, _, _, h⟩, hB⟩
  · exact absurd M.dia_form hf
  · exact absurd hk dia_nz
  · exact absurd hin (by decide +kernel)
  · rw [show M.listN (M.prt M.dia (Int.toNat 3)) 12 = [1, 2] from M.dia_prt] at h ⊢
    exact ⟨⟨la, c, rfl, h⟩, hB⟩
theorem shapeMap (a : Option Addr) (c : Nat) (w : World) (hs : ShAt w M.shp a c) : Calls Try.prog 32 #[.agg #[.int .u8 6, .string ⟨#[]⟩, .slice a 1 c]] w fun e w' => e = .returned (.tuple #[.string ⟨#[109, 97, 112, 40, 112, 97, 105, 114, 40, 102, 108, 97, 103, 44, 32, 108, 41, 41]⟩, .int .i64 0]) ∧ Below w.heap.size w w' := by
  refine (ShapeText_any M.shp a c w hs).mono ?_
  rintro e w' ⟨⟨hd, _⟩ | ⟨_, ho, _⟩ | ⟨_, _, rfl⟩, hB⟩
  · rw [M.shp_deep] at hd; cases hd
  · rw [M.shp_ok] at ho; cases ho
  · refine ⟨?_, hB⟩
    rw [M.shp_txt]; rfl

/-- The shape of the small test, laid. -/
theorem shp_laid (w : World) : ShAt ((w.alloc (.cells #[.int .u8 1, .string ⟨#[]⟩, .slice none 0 0, .int .u8 5, .string ⟨#[108]⟩, .slice none 0 0] 59)).alloc (.cells #[.int .u8 7, .string ⟨#[]⟩, .slice (some ⟨w.heap.size, 0, none⟩) 2 2] 59)) M.shp (some ⟨w.heap.size + 1, 0, none⟩) 1 := by
  have h0 := box_new w #[.int .u8 1, .string ⟨#[]⟩, .slice none 0 0, .int .u8 5, .string ⟨#[108]⟩, .slice none 0 0] 59
  obtain ⟨w1, e1⟩ : ∃ w1, w.alloc (.cells #[.int .u8 1, .string ⟨#[]⟩, .slice none 0 0, .int .u8 5, .string ⟨#[108]⟩, .slice none 0 0] 59) = w1 := ⟨_, rfl⟩
  have s1 : w1.heap.size = w.heap.size + 1 := by rw [← e1, World.size_alloc]
  rw [e1] at h0 ⊢
  have h1 := box_new w1 #[.int .u8 7, .string ⟨#[]⟩, .slice (some ⟨w.heap.size, 0, none⟩) 2 2] 59
  have h2 := heap_below h0 (below1 w1 (.cells #[.int .u8 7, .string ⟨#[]⟩, .slice (some ⟨w.heap.size, 0, none⟩) 2 2] 59))
  have s2 : (w1.alloc (.cells #[.int .u8 7, .string ⟨#[]⟩, .slice (some ⟨w.heap.size, 0, none⟩) 2 2] 59)).heap.size = w1.heap.size + 1 := by rw [World.size_alloc]
  obtain ⟨w2, e2⟩ : ∃ w2, w1.alloc (.cells #[.int .u8 7, .string ⟨#[]⟩, .slice (some ⟨w.heap.size, 0, none⟩) 2 2] 59) = w2 := ⟨_, rfl⟩
  rw [e2] at h1 h2 s2 ⊢
  rw [s1] at h1 s2
  unfold M.shp
  rw [ShAt]
  refine ⟨fun h => (by cases h), Nat.le_refl 1, by decide, Or.inr ⟨_, 0, rfl, by omega, ?_⟩⟩
  rw [KidsAt, KidsAt]
  refine ⟨⟨_, _, by rw [Lib.cell_of_heap h1]; rfl, by rw [Lib.cell_of_heap h1]; rfl, by rw [Lib.cell_of_heap h1]; rfl, ?_⟩, trivial⟩
  rw [ShAt]
  refine ⟨fun h => (by cases h), Nat.le_refl 2, by decide, Or.inr ⟨_, 0, rfl, by omega, ?_⟩⟩
  rw [KidsAt, KidsAt, KidsAt]
  refine ⟨⟨none, 0, by rw [Lib.cell_of_heap h2]; rfl, by rw [Lib.cell_of_heap h2]; rfl, by rw [Lib.cell_of_heap h2]; rfl, ?_⟩, ⟨none, 0, by rw [Lib.cell_of_heap h2]; rfl, by rw [Lib.cell_of_heap h2]; rfl, by rw [Lib.cell_of_heap h2]; rfl, ?_⟩, trivial⟩
  · rw [ShAt]; exact ⟨fun _ => rfl, Nat.le_refl 0, by decide, Or.inl rfl⟩
  · rw [ShAt]; exact ⟨fun _ => rfl, Nat.le_refl 0, by decide, Or.inl rfl⟩

set_option maxHeartbeats 8000000 in
set_option maxRecDepth 100000 in
theorem awake_any (w : World) : Calls Try.prog 8 #[] w fun e w' => e = .returned (.bool true) ∧ Below w.heap.size w w' := by
  go_enter Try.func8, Try.ntmps8
  go_wp2_with fail
  refine (diamond_any _).mono ?_
  rintro e w1 ⟨p1, rfl, HT1, hB1⟩
  have HJ := Lib.hid (joinDia p1 w1 HT1)
  clear HT1
  go_wp2_with fail
  refine HJ.out.mono ?_
  rintro e w2 ⟨rfl, hB2⟩
  have HB2 := Lib.hid (below2 hB1 hB2)
  clear hB1 hB2 HJ
  go_wp2_with fail
  refine (many_any _).mono ?_
  rintro e w3 ⟨p3, rfl, HT3, hB3⟩
  have HJ := Lib.hid (proveMan p3 w3 HT3)
  have hB3 := below2 HB2.out hB3
  clear HT3 HB2
  go_wp2_with fail
  refine HJ.out.mono ?_
  rintro e w4 ⟨rfl, hB4⟩
  have HB4 := Lib.hid (below2 hB3 hB4)
  clear hB3 hB4 HJ
  go_wp2_with fail
  have HX := Lib.hid (box_new w4 #[.int .u8 4, .int .i64 1, .int .i64 2] 33)
  have HB4 := Lib.hid (belowA HB4.out (.cells #[.int .u8 4, .int .i64 1, .int .i64 2] 33))
  refine (diamond_any _).mono ?_
  rintro e w5 ⟨p5, rfl, HT5, hB5⟩
  have HX := Lib.hid (heap_below HX.out hB5)
  have hB5 := below2 HB4.out hB5
  have HJ := Lib.hid (heightDia p5 w5 HT5)
  clear HT5 HB4
  go_wp2_with fail
  refine HJ.out.mono ?_
  rintro e w6 ⟨rfl, hB6⟩
  have HX := Lib.hid (heap_below HX.out hB6)
  have HB6 := Lib.hid (below2 hB5 hB6)
  clear hB5 hB6 HJ
  go_wp2_with fail
  refine (diamond_any _).mono ?_
  rintro e w7 ⟨p7, rfl, HT7, hB7⟩
  have HX := Lib.hid (heap_below HX.out hB7)
  have hB7 := below2 HB6.out hB7
  have HJ := Lib.hid (textDia p7 w7 HT7)
  clear HT7 HB6
  go_wp2_with fail
  refine HJ.out.mono ?_
  rintro e w8 ⟨rfl, hB8⟩
  have HX := Lib.hid (heap_below HX.out hB8)
  have HB8 := Lib.hid (below2 hB7 hB8)
  clear hB7 hB8 HJ
  go_wp2_with fail
  refine (diamond_any _).mono ?_
  rintro e w9 ⟨p9, rfl, HT9, hB9⟩
  have HX := Lib.hid (heap_below HX.out hB9)
  have hB9 := below2 HB8.out hB9
  have HJ := Lib.hid (partsDia p9 w9 HT9)
  clear HT9 HB8
  go_wp2_with fail
  refine HJ.out.mono ?_
  rintro e w10 ⟨⟨la, lc, rfl, hl⟩, hB10⟩
  have HX := Lib.hid (heap_below HX.out hB10)
  have HL := Lib.hid hl
  have HB10 := Lib.hid (below2 hB9 hB10)
  clear hB9 hB10 HJ hl
  go_wp2_with fail
  refine (shapeMap _ 1 _ (shp_laid w10)).mono ?_
  rintro e w11 ⟨rfl, hB11⟩
  have HB11 := Lib.hid (below2 (belowA (belowA HB10.out _) _) hB11)
  have hs := below2 (belowA (below1 w10 _) _) hB11
  have HX := Lib.hid (heap_below HX.out hs)
  have HL := Lib.hid (HL.out.below hs)
  clear hB11 HB10 hs
  have x0 : w11.cell? ⟨w4.heap.size, 0, none⟩ = some (.int .u8 4) := by rw [Lib.cell_of_heap HX.out]; rfl
  have x1 : w11.cell? ⟨w4.heap.size, 1, none⟩ = some (.int .i64 1) := by rw [Lib.cell_of_heap HX.out]; rfl
  have x2 : w11.cell? ⟨w4.heap.size, 2, none⟩ = some (.int .i64 2) := by rw [Lib.cell_of_heap HX.out]; rfl
  go_wp2_with fail
  have hb := below1 w11 (.cells #[.int .i64 1, .int .i64 2] 3)
  have hL := HL.out.below hb
  refine (sameInts_any la _ lc 2 [1, 2] [1, 2] _ (by decide) hL (cel_box (box_new w11 _ _) [1, 2] rfl)).mono ?_
  rintro e w12 ⟨rfl, hB12⟩
  have HB12 := Lib.hid (below2 (belowA HB11.out _) hB12)
  clear hB12 HB11 hL hb
  go_wp2_with fail
  go_ret
  exact ⟨rfl, HB12.out⟩
end Go.Proofs.Ytlpindnbkgaplaa

namespace Go.Proofs.Ytlpindnbkgaplaa
open Go.RowKit

/-- The post of one operation's walk: behind it K. -/
def then1 (K : Act → World → Prop) (Q : Exit → Act → World → Prop) : Exit → Act → World → Prop
  | .normal, a, w => K a w
  | e, a, w => Q e a w
theorem upon_then {P : Program} {o : Oper} {a : Act} {K : Act → World → Prop} {Q : Exit → Act → World → Prop} {r : Result Next} (h : o.upon P a K (then1 K Q) r) : o.upon P a K Q r := by
  cases r with
  | ok n w' => cases n <;> exact h
  | halt x w' => cases x <;> exact h
theorem wpOp_list {P : Program} {ops : Array Oper} {Q : Exit → Act → World → Prop} {i : Nat} {o : Oper} {K : Act → World → Prop} {a : Act} {w : World} (ho : ops[i]? = some o) (h : wpList P ops (then1 K Q) [o] a w) : wpOp P ops Q i K a w := by
  unfold wpOp
  rw [ho]
  unfold wpList at h
  simp only
  split
  · rename_i hw
    rw [if_pos hw] at h
    rcases h with h | ⟨h1, h2⟩
    · exact Or.inl (upon_then h)
    · exact Or.inr ⟨h1, h2⟩
  · rename_i hw
    rw [if_neg hw] at h
    exact h
theorem wpOp_walk {P : Program} {ops : Array Oper} {Q : Exit → Act → World → Prop} {i : Nat} {o : Oper} {K : Act → World → Prop} {a : Act} {w : World} (ho : ops[i]? = some o) (h : ∀ K' : Act → World → Prop, Hid (∀ a w, K a w → K' a w) → wpList P ops (then1 K' Q) [o] a w) : wpOp P ops Q i K a w :=
  wpOp_list ho (h K (Lib.hid fun _ _ h => h))
theorem ready_at {md : Region.Mode} {ops : Array Oper} {L : Array Bool} {i : Nat} (h : i ∈ Region.ready md ops L) : i < ops.size ∧ L.getD i true = false := by
  unfold Region.ready at h
  rw [List.mem_filter, List.mem_range, Bool.and_eq_true, Bool.not_eq_true'] at h
  exact ⟨h.1, h.2.1⟩
theorem ready_none {md : Region.Mode} {ops : Array Oper} {L : Array Bool} (h : L.toList.count false = 0) : Region.ready md ops L = [] := by
  rw [List.eq_nil_iff_forall_not_mem]
  intro i hi
  obtain ⟨_, h2⟩ := ready_at hi
  rw [List.count_eq_zero] at h
  apply h
  rw [Array.getD_eq_getD_getElem?] at h2
  cases hq : L[i]? with
  | none => rw [hq] at h2; cases h2
  | some b =>
    rw [hq] at h2
    have : b = false := h2
    subst this
    exact Array.mem_toList_iff.2 (Array.mem_of_getElem? hq)
/-- A region that draws its order, by what holds behind any part of it. -/
theorem wpAnyH_inv {P : Program} {md : Region.Mode} {ops : Array Oper} {Q : Exit → Act → World → Prop} {S : World → Prop} (I : Array Bool → Act → World → Prop)
    (hstep : ∀ L a w, I L a w → ∀ i, i ∈ Region.ready md ops L → wpOp P ops Q i (fun a' w' => S w' ∧ I (L.setIfInBounds i true) a' w') a w)
    (hend : ∀ L a w, I L a w → Region.ready md ops L = [] → Q .normal a w) : ∀ fuel L a w, L.toList.count false ≤ fuel → I L a w → wpAnyH P md ops Q S fuel L a w := by
  intro fuel
  induction fuel with
  | zero =>
    intro L a w hc hI
    have hr := ready_none (md := md) (ops := ops) (Nat.le_zero.1 hc)
    exact ⟨hr, hend L a w hI hr⟩
  | succ fuel ih =>
    intro L a w hc hI
    refine ⟨fun hr => hend L a w hI hr, fun i hi => ?_⟩
    obtain ⟨_, h2⟩ := ready_at hi
    have hlt : i < L.size := by
      rcases Nat.lt_or_ge i L.size with q | q
      · exact q
      · rw [Array.getD_eq_getD_getElem?, Array.getElem?_eq_none q] at h2; cases h2
    have hv : L.toList[i]'(by simpa using hlt) = false := by
      rw [Array.getD_eq_getD_getElem?, Array.getElem?_eq_getElem hlt] at h2
      simpa using h2
    refine wpOp_mono (fun a' w' hq => ⟨hq.1, ih _ a' w' ?_ hq.2⟩) (hstep L a w hI i hi)
    rw [Array.toList_setIfInBounds, List.count_set (by simpa using hlt), hv]
    have : 0 < L.toList.count false := by rw [List.count_pos_iff]; rw [← hv]; exact List.getElem_mem _
    show L.toList.count false - 1 + 0 ≤ fuel
    omega

/-- What a row of one's own is, is told by its block alone. -/
theorem own_same {w w' : World} {base : Nat} {e : TypeId} {size : Nat} {v : Value} {n : Nat} {xs : List Value} (h : w.ownsRow base e size v n xs) (hk : ∀ g, v.ownBlock = some g → w'.heap[g]? = w.heap[g]?) : w'.ownsRow base e size v n xs := by
  refine ⟨h.1, ?_⟩
  rcases h.2 with h | ⟨g, cap, cur, e1, hb, hg, hr⟩
  · exact Or.inl h
  · exact Or.inr ⟨g, cap, cur, e1, hb, by rw [hk g (by rw [e1]; rfl)]; exact hg, hr⟩
theorem own_lt {w : World} {base : Nat} {e : TypeId} {size : Nat} {v : Value} {n g : Nat} {xs : List Value} (h : w.ownsRow base e size v n xs) (hg : v.ownBlock = some g) : base ≤ g ∧ g < w.heap.size := by
  rcases h.2 with ⟨rfl, _⟩ | ⟨g', cap, cur, rfl, hb, hg', _⟩
  · cases hg
  · have e1 : g' = g := by injection hg
    subst e1
    refine ⟨hb, ?_⟩
    rcases Nat.lt_or_ge g' w.heap.size with q | q
    · exact q
    · rw [Array.getElem?_eq_none q] at hg'; cases hg'
/-- A row that is laid empty. -/
theorem own_made (w : World) (base : Nat) (e : TypeId) (size : Nat) (hb : base ≤ w.heap.size) : (w.alloc (.cells #[] e)).ownsRow base e size (.slice (some ⟨w.heap.size, 0, none⟩) 0 0) 0 [] :=
  ⟨by simp, Or.inr ⟨w.heap.size, 0, #[], rfl, hb, box_new w #[] e, Nat.le_refl _, Nat.zero_le _, by simp, by simp⟩⟩
/-- 'append' of a list onto a row of one's own. -/
theorem wpList_app_cel {α : Type} {f : α → Value} {P : Program} (w : World) {ops : Array Oper} {rest : List Oper} {o : Oper} {a : Act} {Q : Exit → Act → World → Prop}
    (hg : o.guard = none) (s x : Operand) (t : TypeId) (hop : o.op = Op.call { callee := Callee.builtin Builtin.append, args := #[s, x], argTypes := #[t, t] })
    (e : TypeId) (i : TypeInfo) (z : Value) (bytes : Nat) (h1 : P.underlying t = some (.slice e)) (h2 : P.info? e = some i) (h3 : i.zero = some z) (h4 : i.size = 1) (h5 : i.bytes = bytes) (h6 : z.cells.size = 1) (hby : bytes ≤ 100)
    (hone : ∀ x, (f x).oneCell' = true)
    (base : Nat) (v : Value) (xs : List α) (hs : a.eval s = v) (hq : w.ownsRow base e 1 v xs.length (xs.map f)) (hbase : base ≤ w.heap.size)
    (ad : Option Addr) (c : Nat) (l : List α) (hx : a.eval x = .slice ad l.length c) (hc : ad = none → c = 0) (hl : CelSl f w ad l) (hle : xs.length + l.length ≤ 1000000)
    (hK : ∀ v' w', w'.ownsRow base e 1 v' (xs ++ l).length ((xs ++ l).map f) → w.grownBy w' v.ownBlock → (v'.ownBlock = v.ownBlock ∨ v'.ownBlock = some w.heap.size) → (v ≠ .slice none 0 0 → v' ≠ .slice none 0 0) → wpList P ops Q rest (a.put o.dst v') w') : wpList P ops Q (o :: rest) a w := by
  cases ad with
  | none =>
    obtain rfl := hc rfl
    have h0 : l = [] := by
      rcases hl with h | ⟨_, _, h, _⟩
      · exact h
      · cases h
    subst h0
    refine wpList_append_own_none hg s x t hop base e i 1 h1 h2 v xs.length (xs.map f) hs hq hx ?_
    exact hK v w (by rw [List.append_nil]; exact hq) (World.grownBy.refl _ _) (Or.inl rfl) id
  | some ad =>
    refine wpList_append_own_at w hg s x t hop base e i z 1 bytes h1 h2 h3 h4 h5 h6 (by decide) v xs.length (xs.map f) hs hq ad l.length c (l.map f) hx (by simp) ?_ ?_ (by unfold maxLen; omega) (by have := Nat.mul_le_mul hle hby; omega) hbase ?_
    · intro j u hj
      rw [List.getElem?_map] at hj
      cases hq : l[j]? with
      | none => rw [hq] at hj; cases hj
      | some y =>
        rw [hq] at hj
        cases hj
        obtain ⟨hj', e1⟩ := List.getElem?_eq_some_iff.1 hq
        obtain ⟨b, off, e2, hA⟩ := CelSl.at hl hj'
        cases e2
        have : (⟨b, off, none⟩ : Addr).add j = ⟨b, off + j, none⟩ := by simp [Addr.add]
        rw [this, hA.at_ j hj', e1]
    · intro u hu
      obtain ⟨y, _, rfl⟩ := List.mem_map.1 hu
      exact hone y
    · intro v' w' k1 k2 k3 k4
      refine hK v' w' (by rw [List.map_append, List.length_append]; exact k1) k2 k4 (fun hn hn' => ?_)
      exact hn (k3.1 hn').1
/-- What lies in a row of one's own. -/
theorem own_cel {α : Type} {f : α → Value} {w : World} {base : Nat} {e : TypeId} {v : Value} {l : List α} (h : w.ownsRow base e 1 v l.length (l.map f)) : ∃ a c, v = .slice a l.length c ∧ (a = none → c = 0) ∧ l.length ≤ c ∧ CelSl f w a l := by
  rcases h.2 with ⟨rfl, h0⟩ | ⟨g, cap, cur, rfl, hb, hg, hn, hm, hs, ht⟩
  · exact ⟨none, 0, by rw [h0], fun _ => rfl, by omega, Or.inl (List.length_eq_zero_iff.1 h0)⟩
  · refine ⟨_, cap, rfl, fun h => (by cases h), hn, Or.inr ⟨g, 0, rfl, ?_, fun i hi => ?_⟩⟩
    · rcases Nat.lt_or_ge g w.heap.size with q | q
      · exact q
      · simp [Array.getElem?_eq_none q] at hg
    · simp only [World.cell?, hg, Nat.zero_add]
      have h2 : (cur.toList.take (l.length * 1))[i]? = (l.map f)[i]? := by rw [ht]
      rw [List.getElem?_take, if_pos (by omega)] at h2
      simpa [hi] using h2
end Go.Proofs.Ytlpindnbkgaplaa

namespace Go.Proofs.Ytlpindnbkgaplaa
open Go.RowKit

theorem heap_set_same {w : World} {B : Nat} {cs : Array Value} {T : TypeId} (h : w.heap[B]? = some (.cells cs T (0, 0))) (k : Nat) (v : Value) : (w.setCell ⟨B, k, none⟩ v).heap[B]? = some (.cells (cs.setIfInBounds k v) T (0, 0)) := by
  simp [World.setCell, Array.getElem?_modify, h]
theorem heap_set_other (w : World) (B k : Nat) (v : Value) {j : Nat} (hj : j ≠ B) : (w.setCell ⟨B, k, none⟩ v).heap[j]? = w.heap[j]? := by
  simp [World.setCell, Array.getElem?_modify, Ne.symm hj]
theorem grown_set (w : World) (B k : Nat) (v : Value) : w.grownBy (w.setCell ⟨B, k, none⟩ v) (some B) :=
  ⟨rfl, rfl, rfl, by simp, fun j _ hne => heap_set_other w B k v (fun e => hne (by rw [e]))⟩

/-- A list of lists of the call's own whose lists lie in blocks that are as asked. -/
def NestQ {α : Type} (ok : Nat → Prop) (f : α → Value) (w : World) (base : Nat) (e : TypeId) (v : Value) (rows : List (List α)) : Prop :=
  ∃ vals, w.ownsRow base e 1 v rows.length vals ∧ ∀ i, (h : i < rows.length) → ∃ a c, vals[i]? = some (.slice a rows[i].length c) ∧ (a = none → c = 0) ∧ rows[i].length ≤ c ∧ (rows[i] = [] ∨ ∃ b off, a = some ⟨b, off, none⟩ ∧ some b ≠ v.ownBlock ∧ ok b ∧ CelAt f w b off rows[i])
theorem NestQ.nil {α : Type} (ok : Nat → Prop) (f : α → Value) (w : World) (base : Nat) (e : TypeId) : NestQ ok f w base e (.slice none 0 0) [] := ⟨[], ⟨rfl, Or.inl ⟨rfl, rfl⟩⟩, fun i hi => by simp at hi⟩
theorem NestQ.own {α : Type} {ok : Nat → Prop} {f : α → Value} {w : World} {base : Nat} {e : TypeId} {v : Value} {rows : List (List α)} (h : NestQ ok f w base e v rows) : NestOwn f w base e v rows := by
  obtain ⟨vals, h1, h2⟩ := h
  refine ⟨vals, h1, fun i hi => ?_⟩
  obtain ⟨a, c, q1, q2, q3, q4⟩ := h2 i hi
  refine ⟨a, c, q1, q2, q3, ?_⟩
  rcases q4 with q | ⟨b, off, r1, r2, _, r3⟩
  · exact Or.inl q
  · exact Or.inr ⟨b, off, r1, r2, r3⟩
theorem NestQ.kept {α : Type} {ok : Nat → Prop} {f : α → Value} {w w' : World} {base : Nat} {e : TypeId} {v : Value} {rows : List (List α)} (h : NestQ ok f w base e v rows) (hsz : w.heap.size ≤ w'.heap.size)
    (h1 : ∀ g, v.ownBlock = some g → w'.heap[g]? = w.heap[g]?) (h2 : ∀ b, b < w.heap.size → ok b → w'.heap[b]? = w.heap[b]?) : NestQ ok f w' base e v rows := by
  obtain ⟨vals, k1, k2⟩ := h
  refine ⟨vals, own_same k1 h1, fun i hi => ?_⟩
  obtain ⟨a, c, q1, q2, q3, q4⟩ := k2 i hi
  refine ⟨a, c, q1, q2, q3, ?_⟩
  rcases q4 with q | ⟨b, off, r1, r2, r3, r4⟩
  · exact Or.inl q
  · exact Or.inr ⟨b, off, r1, r2, r3, Nat.lt_of_lt_of_le r4.lt hsz, fun j hj => by rw [World.cell?_of_block (w := w) (h2 b r4.lt r3)]; exact r4.at_ j hj⟩
theorem NestQ.slice {α : Type} {ok : Nat → Prop} {f : α → Value} {w : World} {base : Nat} {e : TypeId} {v : Value} {rows : List (List α)} (h : NestQ ok f w base e v rows) : ∃ a c, v = .slice a rows.length c := h.own.slice

theorem wpList_append_nestQ {α : Type} {ok : Nat → Prop} {f : α → Value} {P : Program} (w : World) {ops : Array Oper} {rest : List Oper} {o : Oper} {a : Act} {Q : Exit → Act → World → Prop}
    (hg : o.guard = none) (s x : Operand) (t : TypeId) (hop : o.op = Op.call { callee := Callee.builtin Builtin.append, args := #[s, x], argTypes := #[t, t] })
    (e : TypeId) (i : TypeInfo) (h1 : P.underlying t = some (.slice e)) (h2 : P.info? e = some i) (h3 : i.zero = some (.slice none 0 0)) (h4 : i.size = 1) (h5 : i.bytes = 24)
    (base : Nat) (v : Value) (rows : List (List α)) (hs : a.eval s = v) (hq : NestQ ok f w base e v rows) (hbase : base ≤ w.heap.size)
    (ad : Addr) (c : Nat) (ra : Option Addr) (l : List α) (rc : Nat) (hx : a.eval x = .slice (some ad) 1 c) (hc : w.cell? (ad.add 0) = some (.slice ra l.length rc)) (hl : rows.length + 1 ≤ 1000000)
    (hr1 : ra = none → rc = 0) (hr2 : l.length ≤ rc) (hr3 : l = [] ∨ ∃ b off, ra = some ⟨b, off, none⟩ ∧ some b ≠ v.ownBlock ∧ ok b ∧ CelAt f w b off l)
    (hK : ∀ g c' w', NestQ ok f w' base e (.slice (some ⟨g, 0, none⟩) (rows.length + 1) c') (rows ++ [l]) → w.grownBy w' v.ownBlock → (some g = v.ownBlock ∨ g = w.heap.size) → wpList P ops Q rest (a.put o.dst (.slice (some ⟨g, 0, none⟩) (rows.length + 1) c')) w') : wpList P ops Q (o :: rest) a w := by
  obtain ⟨vals, hown, hrows⟩ := hq
  refine wpList_append_own_at w hg s x t hop base e i (.slice none 0 0) 1 24 h1 h2 h3 h4 h5 rfl (by decide) v rows.length vals hs hown ad 1 c [.slice ra l.length rc] hx rfl ?_ ?_ (by unfold maxLen; omega) (by omega) hbase ?_
  · intro j u hj
    match j, hj with
    | 0, hj => simp at hj; subst hj; exact hc
  · intro u hu; simp at hu; subst hu; rfl
  · intro v' w' hown' hgr _ hblk
    have hvl := hown.1
    rw [Nat.mul_one] at hvl
    rcases hown'.2 with ⟨_, h0⟩ | ⟨g, cap, cur, rfl, hbg, hg', hn, hm, hsz, ht⟩
    · omega
    refine hK g cap w' ⟨vals ++ [.slice ra l.length rc], ?_, fun i hi => ?_⟩ hgr ?_
    · rw [List.length_append, List.length_singleton]; exact hown'
    · have hkeep : ∀ b off l', some b ≠ v.ownBlock → CelAt f w b off l' → (some b ≠ (Value.slice (some ⟨g, 0, none⟩) (rows.length + 1) cap).ownBlock ∧ CelAt f w' b off l') := by
        intro b off l' hne hat
        have hlt := hat.lt
        have hb : w'.heap[b]? = w.heap[b]? := hgr.block b hlt hne
        refine ⟨?_, Nat.lt_of_lt_of_le hlt hgr.size, fun j hj => ?_⟩
        · rcases hblk with q | q
          · rw [q]; exact hne
          · rw [q]; intro e; cases e; omega
        · rw [World.cell?_of_block (w := w) hb]; exact hat.at_ j hj
      by_cases hil : i < rows.length
      · obtain ⟨a', c2, q1, q2, q3, q4⟩ := hrows i hil
        refine ⟨a', c2, ?_, q2, ?_, ?_⟩
        · rw [List.getElem?_append_left (by omega), List.getElem_append_left hil]; exact q1
        · rw [List.getElem_append_left hil]; exact q3
        · rw [List.getElem_append_left hil]
          rcases q4 with q | ⟨b, off, r1, r2, r3, r4⟩
          · exact Or.inl q
          · obtain ⟨k1, k2⟩ := hkeep b off _ r2 r4
            exact Or.inr ⟨b, off, r1, k1, r3, k2⟩
      · have hie : i = rows.length := by simp at hi; omega
        subst hie
        refine ⟨ra, rc, ?_, hr1, ?_, ?_⟩
        · rw [List.getElem?_append_right (by omega), hvl]; simp
        · simpa using hr2
        · rw [List.getElem_concat_length (by rfl)]
          rcases hr3 with q | ⟨b, off, r1, r2, r3, r4⟩
          · exact Or.inl q
          · obtain ⟨k1, k2⟩ := hkeep b off _ r2 r4
            exact Or.inr ⟨b, off, r1, k1, r3, k2⟩
    · rcases hblk with q | q
      · exact Or.inl q
      · right; injection q
end Go.Proofs.Ytlpindnbkgaplaa

namespace Go.Proofs.Ytlpindnbkgaplaa
open Go.RowKit

abbrev tb0 : Array Value := #[.string ⟨#[]⟩, .slice none 0 0, .slice none 0 0, .slice none 0 0]
/-- How far the first statement of Copy has come. -/
structure CpI (t : M.Tb) (w0 : World) (N : Nat) (b2 b5 b6 b9 b10 b11 b12 : Bool) (x3 x7 x10 x11 x14 x15 s r : Value) (B : Nat) (w : World) : Prop where
  fl : (b5 = true → b2 = true) ∧ (b9 = true → b6 = true ∧ b5 = true) ∧ (b10 = true → b5 = true ∧ b9 = true) ∧ (b12 = true → b10 = true ∧ b11 = true)
  nz : N ≤ w0.heap.size
  below : Below N w0 w
  s1 : b2 = true → b5 = false → x7 = s ∧ s ≠ .slice none 0 0 ∧ w.ownsRow N 9 1 s ([] : List ByteArray).length (([] : List ByteArray).map .string)
  s2 : b5 = true → x10 = s ∧ s ≠ .slice none 0 0 ∧ w.ownsRow N 9 1 s t.elems.length (t.elems.map .string)
  r1 : b6 = true → b9 = false → x11 = r ∧ r ≠ .slice none 0 0 ∧ w.ownsRow N 4 1 r ([] : List Bool).length (([] : List Bool).map .bool)
  r2 : b9 = true → x14 = r ∧ r ≠ .slice none 0 0 ∧ w.ownsRow N 4 1 r t.wrong.length (t.wrong.map .bool)
  k : b10 = true → x15 = .agg #[.string t.name, s, .slice none 0 0, r]
  bx : b11 = true → x3 = .pointer (some ⟨B, 0, none⟩) ∧ N ≤ B ∧ w.heap[B]? = some (.cells (if b12 then #[.string t.name, s, .slice none 0 0, r] else tb0) 26 (0, 0))
  d1 : b2 = true → b6 = true → s.ownBlock ≠ r.ownBlock
  d2 : b2 = true → b11 = true → s.ownBlock ≠ some B
  d3 : b6 = true → b11 = true → r.ownBlock ≠ some B
theorem own_blk {w : World} {base : Nat} {e : TypeId} {size : Nat} {v : Value} {n : Nat} {xs : List Value} (h : w.ownsRow base e size v n xs) (hn : v ≠ .slice none 0 0) : ∃ g, v.ownBlock = some g ∧ base ≤ g ∧ g < w.heap.size := by
  rcases h.2 with ⟨h1, _⟩ | ⟨g, cap, cur, e1, _⟩
  · exact absurd h1 hn
  · have : v.ownBlock = some g := by rw [e1]; rfl
    exact ⟨g, this, own_lt h this⟩
theorem heap_lt {w : World} {B : Nat} {o : Obj} (h : w.heap[B]? = some o) : B < w.heap.size := by
  rcases Nat.lt_or_ge B w.heap.size with q | q
  · exact q
  · rw [Array.getElem?_eq_none q] at h; cases h
theorem alloc_at (w : World) (o : Obj) {k : Nat} (h : k < w.heap.size) : (w.alloc o).heap[k]? = w.heap[k]? := (below1 w o).block k h
section
variable {t : M.Tb} {w0 : World} {N : Nat} {b2 b5 b6 b9 b10 b11 b12 : Bool} {x3 x7 x10 x11 x14 x15 s r : Value} {B : Nat} {w : World}
theorem CpI.str_lt (h : CpI t w0 N b2 b5 b6 b9 b10 b11 b12 x3 x7 x10 x11 x14 x15 s r B w) (h2 : b2 = true) : ∃ g, s.ownBlock = some g ∧ N ≤ g ∧ g < w.heap.size := by
  cases hb : b5 with
  | true => obtain ⟨_, k1, k2⟩ := h.s2 hb; exact own_blk k2 k1
  | false => obtain ⟨_, k1, k2⟩ := h.s1 h2 hb; exact own_blk k2 k1
theorem CpI.row_lt (h : CpI t w0 N b2 b5 b6 b9 b10 b11 b12 x3 x7 x10 x11 x14 x15 s r B w) (h6 : b6 = true) : ∃ g, r.ownBlock = some g ∧ N ≤ g ∧ g < w.heap.size := by
  cases hb : b9 with
  | true => obtain ⟨_, k1, k2⟩ := h.r2 hb; exact own_blk k2 k1
  | false => obtain ⟨_, k1, k2⟩ := h.r1 h6 hb; exact own_blk k2 k1
theorem own_slice' {v : Value} {w : World} {n : Nat} {e : TypeId} {xs : List Value} {b : Nat} (h : w.ownsRow b e 1 v n xs) : ∃ a c, v = .slice a n c := own_slice h
theorem CpI.str (h : CpI t w0 N b2 b5 b6 b9 true b11 b12 x3 x7 x10 x11 x14 x15 s r B w) : w.ownsRow N 9 1 s t.elems.length (t.elems.map .string) := (h.s2 (h.fl.2.2.1 rfl).1).2.2
theorem CpI.row (h : CpI t w0 N b2 b5 b6 b9 true b11 b12 x3 x7 x10 x11 x14 x15 s r B w) : w.ownsRow N 4 1 r t.wrong.length (t.wrong.map .bool) := (h.r2 (h.fl.2.2.1 rfl).2).2.2
/-- Behind a step that leaves the blocks as they are. -/
theorem CpI.same (h : CpI t w0 N b2 b5 b6 b9 b10 b11 b12 x3 x7 x10 x11 x14 x15 s r B w) {w' : World} (hB : Below N w0 w') (hk : ∀ k, k < w.heap.size → w'.heap[k]? = w.heap[k]?) : CpI t w0 N b2 b5 b6 b9 b10 b11 b12 x3 x7 x10 x11 x14 x15 s r B w' := by
  refine ⟨h.fl, h.nz, hB, fun q q' => ?_, fun q => ?_, fun q q' => ?_, fun q => ?_, h.k, fun q => ?_, h.d1, h.d2, h.d3⟩
  · obtain ⟨a, b, c⟩ := h.s1 q q'; exact ⟨a, b, own_same c fun g hg => hk g (own_lt c hg).2⟩
  · obtain ⟨a, b, c⟩ := h.s2 q; exact ⟨a, b, own_same c fun g hg => hk g (own_lt c hg).2⟩
  · obtain ⟨a, b, c⟩ := h.r1 q q'; exact ⟨a, b, own_same c fun g hg => hk g (own_lt c hg).2⟩
  · obtain ⟨a, b, c⟩ := h.r2 q; exact ⟨a, b, own_same c fun g hg => hk g (own_lt c hg).2⟩
  · obtain ⟨a, b, c⟩ := h.bx q; exact ⟨a, b, by rw [hk B (heap_lt c)]; exact c⟩
theorem CpI.le (h : CpI t w0 N b2 b5 b6 b9 b10 b11 b12 x3 x7 x10 x11 x14 x15 s r B w) : N ≤ w.heap.size := Nat.le_trans h.nz h.below.size
theorem CpI.step2 (h : CpI t w0 N false b5 b6 b9 b10 b11 b12 x3 x7 x10 x11 x14 x15 s r B w) :
    CpI t w0 N true b5 b6 b9 b10 b11 b12 x3 (.slice (some ⟨w.heap.size, 0, none⟩) 0 0) x10 x11 x14 x15 (.slice (some ⟨w.heap.size, 0, none⟩) 0 0) r B (w.alloc (.cells #[] 9)) := by
  have h5 : b5 = false := by cases b5; rfl; exact absurd (h.fl.1 rfl) (by simp)
  subst h5
  have h9 : b9 = false := by cases b9; rfl; exact absurd (h.fl.2.1 rfl).2 (by simp)
  subst h9
  have h10 : b10 = false := by cases b10; rfl; exact absurd (h.fl.2.2.1 rfl).1 (by simp)
  subst h10
  have h12 : b12 = false := by cases b12; rfl; exact absurd (h.fl.2.2.2 rfl).1 (by simp)
  subst h12
  refine ⟨⟨by simp, by simp, by simp, by simp⟩, h.nz, h.below.alloc h.le _, fun _ _ => ⟨rfl, by simp, own_made w N _ 1 h.le⟩, by simp, fun q q' => ?_, by simp, by simp, fun q => ?_, fun _ q e => ?_, fun _ q e => ?_, h.d3⟩
  · obtain ⟨a, b, c⟩ := h.r1 q q'; exact ⟨a, b, own_same c fun g hg => alloc_at _ _ (own_lt c hg).2⟩
  · obtain ⟨a, b, c⟩ := h.bx q; exact ⟨a, b, by rw [alloc_at _ _ (heap_lt c)]; exact c⟩
  · obtain ⟨g, e1, _, h3⟩ := h.row_lt q
    rw [e1] at e
    have : w.heap.size = g := by injection e
    omega
  · have h3 := heap_lt (h.bx q).2.2
    have : w.heap.size = B := by injection e
    omega
theorem CpI.step6 (h : CpI t w0 N b2 b5 false b9 b10 b11 b12 x3 x7 x10 x11 x14 x15 s r B w) :
    CpI t w0 N b2 b5 true b9 b10 b11 b12 x3 x7 x10 (.slice (some ⟨w.heap.size, 0, none⟩) 0 0) x14 x15 s (.slice (some ⟨w.heap.size, 0, none⟩) 0 0) B (w.alloc (.cells #[] 4)) := by
  have h9 : b9 = false := by cases b9; rfl; exact absurd (h.fl.2.1 rfl).1 (by simp)
  subst h9
  have h10 : b10 = false := by cases b10; rfl; exact absurd (h.fl.2.2.1 rfl).2 (by simp)
  subst h10
  have h12 : b12 = false := by cases b12; rfl; exact absurd (h.fl.2.2.2 rfl).1 (by simp)
  subst h12
  refine ⟨⟨h.fl.1, by simp, by simp, by simp⟩, h.nz, h.below.alloc h.le _, fun q q' => ?_, fun q => ?_, fun _ _ => ⟨rfl, by simp, own_made w N _ 1 h.le⟩, by simp, by simp, fun q => ?_, fun q _ e => ?_, h.d2, fun _ q e => ?_⟩
  · obtain ⟨a, b, c⟩ := h.s1 q q'; exact ⟨a, b, own_same c fun g hg => alloc_at _ _ (own_lt c hg).2⟩
  · obtain ⟨a, b, c⟩ := h.s2 q; exact ⟨a, b, own_same c fun g hg => alloc_at _ _ (own_lt c hg).2⟩
  · obtain ⟨a, b, c⟩ := h.bx q; exact ⟨a, b, by rw [alloc_at _ _ (heap_lt c)]; exact c⟩
  · obtain ⟨g, e1, _, h3⟩ := h.str_lt q
    rw [e1] at e
    have : g = w.heap.size := by injection e
    omega
  · have h3 := heap_lt (h.bx q).2.2
    have : w.heap.size = B := by injection e
    omega
theorem CpI.step11 (h : CpI t w0 N b2 b5 b6 b9 b10 false b12 x3 x7 x10 x11 x14 x15 s r B w) :
    CpI t w0 N b2 b5 b6 b9 b10 true b12 (.pointer (some ⟨w.heap.size, 0, none⟩)) x7 x10 x11 x14 x15 s r w.heap.size (w.alloc (.cells tb0 26)) := by
  have h12 : b12 = false := by cases b12; rfl; exact absurd (h.fl.2.2.2 rfl).2 (by simp)
  subst h12
  refine ⟨⟨h.fl.1, h.fl.2.1, h.fl.2.2.1, by simp⟩, h.nz, h.below.alloc h.le _, fun q q' => ?_, fun q => ?_, fun q q' => ?_, fun q => ?_, h.k, fun _ => ⟨rfl, h.le, box_new w tb0 _⟩, h.d1, fun q _ e => ?_, fun q _ e => ?_⟩
  · obtain ⟨a, b, c⟩ := h.s1 q q'; exact ⟨a, b, own_same c fun g hg => alloc_at _ _ (own_lt c hg).2⟩
  · obtain ⟨a, b, c⟩ := h.s2 q; exact ⟨a, b, own_same c fun g hg => alloc_at _ _ (own_lt c hg).2⟩
  · obtain ⟨a, b, c⟩ := h.r1 q q'; exact ⟨a, b, own_same c fun g hg => alloc_at _ _ (own_lt c hg).2⟩
  · obtain ⟨a, b, c⟩ := h.r2 q; exact ⟨a, b, own_same c fun g hg => alloc_at _ _ (own_lt c hg).2⟩
  · obtain ⟨g, e1, _, h3⟩ := h.str_lt q
    rw [e1] at e
    have : g = w.heap.size := by injection e
    omega
  · obtain ⟨g, e1, _, h3⟩ := h.row_lt q
    rw [e1] at e
    have : g = w.heap.size := by injection e
    omega
theorem CpI.step5 (h : CpI t w0 N true false b6 b9 b10 b11 b12 x3 x7 x10 x11 x14 x15 s r B w) {v : Value} {w' : World}
    (k1 : w'.ownsRow N 9 1 v t.elems.length (t.elems.map .string)) (k2 : w.grownBy w' s.ownBlock) (k3 : v.ownBlock = s.ownBlock ∨ v.ownBlock = some w.heap.size) (k4 : v ≠ .slice none 0 0) :
    CpI t w0 N true true b6 b9 b10 b11 b12 x3 x7 v x11 x14 x15 v r B w' := by
  have h9 : b9 = false := by cases b9; rfl; exact absurd (h.fl.2.1 rfl).2 (by simp)
  subst h9
  have h10 : b10 = false := by cases b10; rfl; exact absurd (h.fl.2.2.1 rfl).1 (by simp)
  subst h10
  have h12 : b12 = false := by cases b12; rfl; exact absurd (h.fl.2.2.2 rfl).1 (by simp)
  subst h12
  obtain ⟨g, e1, hg1, hg2⟩ := h.str_lt rfl
  refine ⟨⟨by simp, by simp, by simp, by simp⟩, h.nz, h.below.grown k2 h.le (fun k hk => by rw [e1] at hk; cases hk; exact hg1), by simp, fun _ => ⟨rfl, k4, k1⟩, fun q q' => ?_, by simp, by simp, fun q => ?_, fun _ q e => ?_, fun _ q e => ?_, h.d3⟩
  · obtain ⟨a, b, c⟩ := h.r1 q q'
    exact ⟨a, b, own_same c fun g' hg' => k2.block g' (own_lt c hg').2 (fun e => h.d1 rfl q (by rw [hg', ← e]))⟩
  · obtain ⟨a, b, c⟩ := h.bx q
    exact ⟨a, b, by rw [k2.block B (heap_lt c) (fun e => h.d2 rfl q e.symm)]; exact c⟩
  · rcases k3 with k3 | k3
    · exact h.d1 rfl q (by rw [← k3]; exact e)
    · obtain ⟨g', e2, _, h3⟩ := h.row_lt q
      rw [k3, e2] at e
      have : w.heap.size = g' := by injection e
      omega
  · rcases k3 with k3 | k3
    · exact h.d2 rfl q (by rw [← k3]; exact e)
    · have h3 := heap_lt (h.bx q).2.2
      rw [k3] at e
      have : w.heap.size = B := by injection e
      omega
theorem CpI.step9 (h : CpI t w0 N b2 b5 true false b10 b11 b12 x3 x7 x10 x11 x14 x15 s r B w) (h5 : b5 = true) {v : Value} {w' : World}
    (k1 : w'.ownsRow N 4 1 v t.wrong.length (t.wrong.map .bool)) (k2 : w.grownBy w' r.ownBlock) (k3 : v.ownBlock = r.ownBlock ∨ v.ownBlock = some w.heap.size) (k4 : v ≠ .slice none 0 0) :
    CpI t w0 N b2 b5 true true b10 b11 b12 x3 x7 x10 x11 v x15 s v B w' := by
  have h10 : b10 = false := by cases b10; rfl; exact absurd (h.fl.2.2.1 rfl).2 (by simp)
  subst h10
  have h12 : b12 = false := by cases b12; rfl; exact absurd (h.fl.2.2.2 rfl).1 (by simp)
  subst h12
  subst h5
  obtain rfl := h.fl.1 rfl
  obtain ⟨g, e1, hg1, hg2⟩ := h.row_lt rfl
  refine ⟨⟨by simp, by simp, by simp, by simp⟩, h.nz, h.below.grown k2 h.le (fun k hk => by rw [e1] at hk; cases hk; exact hg1), by simp, fun q => ?_, by simp, fun _ => ⟨rfl, k4, k1⟩, by simp, fun q => ?_, fun q _ e => ?_, h.d2, fun _ q e => ?_⟩
  · obtain ⟨a, b, c⟩ := h.s2 q
    exact ⟨a, b, own_same c fun g' hg' => k2.block g' (own_lt c hg').2 (fun e => h.d1 rfl rfl (by rw [hg', ← e]))⟩
  · obtain ⟨a, b, c⟩ := h.bx q
    exact ⟨a, b, by rw [k2.block B (heap_lt c) (fun e => h.d3 rfl q e.symm)]; exact c⟩
  · rcases k3 with k3 | k3
    · exact h.d1 rfl rfl (by rw [← k3]; exact e)
    · obtain ⟨g', e2, _, h3⟩ := h.str_lt rfl
      rw [k3, e2] at e
      have : g' = w.heap.size := by injection e
      omega
  · rcases k3 with k3 | k3
    · exact h.d3 rfl q (by rw [← k3]; exact e)
    · have h3 := heap_lt (h.bx q).2.2
      rw [k3] at e
      have : w.heap.size = B := by injection e
      omega
theorem CpI.step10 (h : CpI t w0 N b2 b5 b6 b9 false b11 b12 x3 x7 x10 x11 x14 x15 s r B w) (h5 : b5 = true) (h9 : b9 = true) : CpI t w0 N b2 b5 b6 b9 true b11 b12 x3 x7 x10 x11 x14 (.agg #[.string t.name, x10, .slice none 0 0, x14]) s r B w :=
  ⟨⟨h.fl.1, h.fl.2.1, fun _ => ⟨h5, h9⟩, fun q => ⟨rfl, (h.fl.2.2.2 q).2⟩⟩, h.nz, h.below, h.s1, h.s2, h.r1, h.r2, fun _ => by rw [(h.s2 h5).1, (h.r2 h9).1], h.bx, h.d1, h.d2, h.d3⟩
theorem CpI.step12 (h : CpI t w0 N b2 b5 b6 b9 true true false x3 x7 x10 x11 x14 x15 s r B w) {w' : World} (k1 : w'.heap[B]? = some (.cells #[.string t.name, s, .slice none 0 0, r] 26 (0, 0))) (k2 : w.grownBy w' (some B)) :
    CpI t w0 N b2 b5 b6 b9 true true true x3 x7 x10 x11 x14 x15 s r B w' := by
  obtain ⟨h5, h9⟩ := h.fl.2.2.1 rfl
  subst h5 h9
  obtain rfl := h.fl.1 rfl
  obtain ⟨rfl, _⟩ := h.fl.2.1 rfl
  obtain ⟨e3, hb, _⟩ := h.bx rfl
  refine ⟨⟨by simp, by simp, by simp, by simp⟩, h.nz, h.below.grown k2 h.le (fun k hk => by cases hk; exact hb), by simp, fun q => ?_, by simp, fun q => ?_, h.k, fun q => ⟨e3, hb, k1⟩, h.d1, h.d2, h.d3⟩
  · obtain ⟨a, b, c⟩ := h.s2 q
    exact ⟨a, b, own_same c fun g' hg' => k2.block g' (own_lt c hg').2 (fun e => h.d2 rfl rfl (by rw [hg', ← e]))⟩
  · obtain ⟨a, b, c⟩ := h.r2 q
    exact ⟨a, b, own_same c fun g' hg' => k2.block g' (own_lt c hg').2 (fun e => h.d3 rfl rfl (by rw [hg', ← e]))⟩
end

/-- How far the copy's rows have come: vb the value in its box, v the list of them. -/
structure CpL (t : M.Tb) (w0 : World) (N : Nat) (s r : Value) (B : Nat) (rows : List (List Int)) (vb v : Value) (w : World) : Prop where
  nz : N ≤ w0.heap.size
  below : Below N w0 w
  sow : w.ownsRow N 9 1 s t.elems.length (t.elems.map .string)
  row : w.ownsRow N 4 1 r t.wrong.length (t.wrong.map .bool)
  hB : N ≤ B
  bx : w.heap[B]? = some (.cells #[.string t.name, s, vb, r] 26 (0, 0))
  d2 : s.ownBlock ≠ some B
  d3 : r.ownBlock ≠ some B
  nst : NestQ (fun b => b ≠ B ∧ N ≤ b) (Value.int .i64) w N 39 v rows
  e1 : ∀ g, v.ownBlock = some g → some g ≠ s.ownBlock ∧ some g ≠ r.ownBlock ∧ g ≠ B
theorem CpI.done {t : M.Tb} {w0 : World} {N : Nat} {x3 x7 x10 x11 x14 x15 s r : Value} {B : Nat} {w : World} (h : CpI t w0 N true true true true true true true x3 x7 x10 x11 x14 x15 s r B w) : CpL t w0 N s r B [] (.slice none 0 0) (.slice none 0 0) w :=
  ⟨h.nz, h.below, (h.s2 rfl).2.2, (h.r2 rfl).2.2, (h.bx rfl).2.1, (h.bx rfl).2.2, h.d2 rfl rfl, h.d3 rfl rfl, NestQ.nil _ _ _ _ _, fun g hg => by cases hg⟩
section
variable {t : M.Tb} {w0 : World} {N : Nat} {s r : Value} {B : Nat} {rows : List (List Int)} {vb v : Value} {w w' : World}
theorem nest_lt {α : Type} {ok : Nat → Prop} {f : α → Value} {w : World} {base : Nat} {e : TypeId} {v : Value} {rows : List (List α)} (h : NestQ ok f w base e v rows) {g : Nat} (hg : v.ownBlock = some g) : base ≤ g ∧ g < w.heap.size := by
  obtain ⟨_, h1, _⟩ := h
  exact own_lt h1 hg
theorem CpL.le (h : CpL t w0 N s r B rows vb v w) : N ≤ w.heap.size := Nat.le_trans h.nz h.below.size
theorem CpL.keep (h : CpL t w0 N s r B rows vb v w) (hsz : w.heap.size ≤ w'.heap.size) (hB : Below N w0 w') (hk : ∀ k, k < w.heap.size → w'.heap[k]? = w.heap[k]?) : CpL t w0 N s r B rows vb v w' :=
  ⟨h.nz, hB, own_same h.sow fun g hg => hk g (own_lt h.sow hg).2, own_same h.row fun g hg => hk g (own_lt h.row hg).2, h.hB, by rw [hk B (heap_lt h.bx)]; exact h.bx, h.d2, h.d3,
    h.nst.kept hsz (fun g hg => hk g (nest_lt h.nst hg).2) (fun b hb _ => hk b hb), h.e1⟩
/-- Behind what lays new blocks alone. -/
theorem CpL.new (h : CpL t w0 N s r B rows vb v w) (hb : Below w.heap.size w w') : CpL t w0 N s r B rows vb v w' := h.keep hb.size (h.below.trans (hb.mono h.le)) hb.block
theorem CpL.push (h : CpL t w0 N s r B rows vb v w) {l : List Int} {g n c : Nat} (hn : NestQ (fun b => b ≠ B ∧ N ≤ b) (Value.int .i64) w' N 39 (.slice (some ⟨g, 0, none⟩) n c) (rows ++ [l])) (hg : w.grownBy w' v.ownBlock) (hb : some g = v.ownBlock ∨ g = w.heap.size) :
    CpL t w0 N s r B (rows ++ [l]) vb (.slice (some ⟨g, 0, none⟩) n c) w' := by
  have hk : ∀ k, k < w.heap.size → some k ≠ v.ownBlock → w'.heap[k]? = w.heap[k]? := hg.block
  refine ⟨h.nz, h.below.grown hg h.le (fun k hk => (nest_lt h.nst hk).1), own_same h.sow fun g' hg' => hk g' (own_lt h.sow hg').2 (fun e => (h.e1 g' e.symm).1 hg'.symm), own_same h.row fun g' hg' => hk g' (own_lt h.row hg').2 (fun e => (h.e1 g' e.symm).2.1 hg'.symm),
    h.hB, by rw [hk B (heap_lt h.bx) (fun e => (h.e1 B e.symm).2.2 rfl)]; exact h.bx, h.d2, h.d3, hn, fun g' hg' => ?_⟩
  have e : g = g' := by injection hg'
  subst e
  rcases hb with q | q
  · exact h.e1 g q.symm
  · refine ⟨fun e => ?_, fun e => ?_, fun e => ?_⟩
    · have := (own_lt h.sow e.symm).2; omega
    · have := (own_lt h.row e.symm).2; omega
    · have := heap_lt h.bx; omega
theorem CpL.set (h : CpL t w0 N s r B rows vb v w) : CpL t w0 N s r B rows v v (w.setCell ⟨B, 2, none⟩ v) := by
  have hg := grown_set w B 2 v
  refine ⟨h.nz, h.below.grown hg h.le (fun k hk => by cases hk; exact h.hB), own_same h.sow fun g hg' => hg.block g (own_lt h.sow hg').2 (fun e => h.d2 (by rw [hg', e])), own_same h.row fun g hg' => hg.block g (own_lt h.row hg').2 (fun e => h.d3 (by rw [hg', e])),
    h.hB, by rw [heap_set_same h.bx]; rfl, h.d2, h.d3, h.nst.kept hg.size (fun g hg' => hg.block g (nest_lt h.nst hg').2 (fun e => (h.e1 g hg').2.2 (by injection e))) (fun b hb hok => hg.block b hb (fun e => hok.1 (by injection e))), h.e1⟩
theorem own_cel_at {α : Type} {f : α → Value} {w : World} {base : Nat} {e : TypeId} {ea : Option Addr} {ec : Nat} {l : List α} (h : w.ownsRow base e 1 (.slice ea l.length ec) l.length (l.map f)) : CelSl f w ea l := by
  obtain ⟨a, c, e, _, _, q⟩ := own_cel h
  have e1 : ea = a := by injection e
  subst e1
  exact q
theorem nest_row_at {w : World} {base : Nat} {e : TypeId} {g n c : Nat} {rows : List (List Int)} (h : NestOwn (Value.int .i64) w base e (.slice (some ⟨g, 0, none⟩) n c) rows) : RowAt w g 0 rows := by
  rcases h.lies with ⟨h, _⟩ | ⟨g', c', h, _, _, q⟩
  · cases h
  · have e1 : g = g' := by injection h with e; injection e with e; injection e
    subst e1
    exact q.row
theorem CpL.table (h : CpL t w0 N s r B t.above v v w) : ∃ p', w.heap[B]? = some (.cells (tbA t p') 26 (0, 0)) ∧ ∀ w', w.heap.size ≤ w'.heap.size → (∀ g, N ≤ g → g < w.heap.size → w'.heap[g]? = w.heap[g]?) → TbIn w' t p' := by
  have hs := h.sow
  have hr := h.row
  have hn := h.nst
  have hbx := h.bx
  obtain ⟨ea, ec, rfl, en, el, _⟩ := own_cel h.sow
  obtain ⟨wa, wc, rfl, wn, wl, _⟩ := own_cel h.row
  rcases h.nst.own.lies with ⟨rfl, h0⟩ | ⟨g, c, rfl, hl, _, hat⟩
  · refine ⟨⟨ea, ec, none, 0, wa, wc⟩, by rw [hbx]; simp [h0], fun w' hsz hk => ⟨?_, Or.inl h0, ?_, en, fun _ => rfl, wn, el, by rw [h0]; exact Nat.le_refl 0, wl⟩⟩
    · exact own_cel_at (own_same hs fun g hg => hk g (own_lt hs hg).1 (own_lt hs hg).2)
    · exact own_cel_at (own_same hr fun g hg => hk g (own_lt hr hg).1 (own_lt hr hg).2)
  · refine ⟨⟨ea, ec, some ⟨g, 0, none⟩, c, wa, wc⟩, hbx, fun w' hsz hk => ⟨?_, Or.inr ⟨g, 0, rfl, ?_⟩, ?_, en, fun h => (by cases h), wn, el, hl, wl⟩⟩
    · exact own_cel_at (own_same hs fun g hg => hk g (own_lt hs hg).1 (own_lt hs hg).2)
    · exact nest_row_at (hn.kept hsz (fun g hg => hk g (nest_lt hn hg).1 (nest_lt hn hg).2) (fun b hb hok => hk b hok.2 hb)).own
    · exact own_cel_at (own_same hr fun g hg => hk g (own_lt hr hg).1 (own_lt hr hg).2)
end
end Go.Proofs.Ytlpindnbkgaplaa
