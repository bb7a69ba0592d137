/- Texts of one's own, joined: OrdAq. -/
import Derived.Test.YtnhnjfoboepffaaGr1
import Derived.Test.YtnhnjfoboepffaaGr29
namespace Go.Proofs.Ytnhnjfoboepffaa
open Go.RowKit

namespace M
def lit1 : List UInt8 := [108, 97, 116, 116, 105, 99, 101, 32]
def lit2 : List UInt8 := [32, 123, 32]
def elTs (t : Tb) (k : Nat) : List (List UInt8) := (List.range k).map (elT t)
theorem elTs_len (t : Tb) (k : Nat) : (elTs t k).length = k := by simp [elTs]
theorem elTs_next (t : Tb) (k : Nat) : elTs t (k + 1) = elTs t k ++ [elT t k] := by simp [elTs, List.range_succ]
/-- The text of a table. -/
def txt (t : Tb) : List UInt8 := lit1 ++ bl t.name ++ lit2 ++ Lib.join (elTs t t.elems.length) [59, 32] ++ [32, 125]
theorem join_len (xs : List (List UInt8)) (sep : List UInt8) (n : Nat) (h : ∀ x, x ∈ xs → x.length ≤ n) : (Lib.join xs sep).length ≤ xs.length * (n + sep.length) := by
  cases xs with
  | nil => rw [Lib.join_nil]; simp
  | cons x r =>
    rw [Lib.join_cons, List.length_append]
    have h1 := h x List.mem_cons_self
    have h2 : (Lib.joinTail sep r).length ≤ r.length * (n + sep.length) := by
      unfold Lib.joinTail
      have hr : ∀ y, y ∈ r → y.length ≤ n := fun y hy => h y (List.mem_cons_of_mem _ hy)
      clear h h1
      induction r with
      | nil => simp
      | cons y r ih =>
        have := ih (fun z hz => hr z (List.mem_cons_of_mem _ hz))
        have hy := hr y List.mem_cons_self
        rw [List.map_cons, List.flatten_cons, List.length_append, List.length_append, List.length_cons, Nat.add_mul, Nat.one_mul]
        omega
    rw [List.length_cons, Nat.add_mul, Nat.one_mul]
    omega
end M
/-- What Text comes to. -/
def TextPost (t : M.Tb) (w : World) (e : Ending) (w' : World) : Prop :=
  ((¬ M.form t ∧ e = .returned (.tuple #[.string ⟨#[]⟩, .int .i64 4])) ∨ (M.form t ∧ e = .returned (.tuple #[.string (bs (M.txt t)), .int .i64 0]))) ∧ Below w.heap.size w w'
theorem tp_1 {t : M.Tb} {w w' : World} (h : ¬ M.form t) (hB : Below w.heap.size w w') : TextPost t w (.returned (.tuple #[.string ⟨#[]⟩, .int .i64 4])) w' := ⟨Or.inl ⟨h, rfl⟩, hB⟩
theorem tp_2 {t : M.Tb} {w w' : World} {s : ByteArray} (h : M.form t) (hs : bl s = M.txt t) (hB : Below w.heap.size w w') : TextPost t w (.returned (.tuple #[.string s, .int .i64 0])) w' := ⟨Or.inr ⟨h, by rw [← hs, bs_bl]⟩, hB⟩
set_option maxHeartbeats 8000000 in
set_option maxRecDepth 100000 in
theorem text_any (t : M.Tb) (p : Tp) (w : World) (hal : ∀ l, l ∈ t.above → l.length ≤ 1000000) (ht : TbIn w t p) : Calls Try.prog 10 #[tbV t p] w (TextPost t w) := by
  obtain ⟨i0, hi, hz0, hz1, hz2⟩ := info_parts strInfo
  have HI0 := Lib.hid hi
  have HZ0 := Lib.hid hz0
  have HZ1 := Lib.hid hz1
  have HZ2 := Lib.hid hz2
  clear hi hz0 hz1 hz2
  have HW := Lib.hid (below1 w (.cells (tbA t p) 26))
  have HT := Lib.hid (ht.below HW.out)
  have HX := Lib.hid (tbBox (t := t) (p := p) (box_new w (tbA t p) 26))
  have HC := Lib.hid (check_any t p (w.alloc (.cells (tbA t p) 26)) hal (ht.below HW.out))
  obtain ⟨c0, c1, c2, c3⟩ := HX.out
  clear ht hal
  go_enter Try.func10, Try.ntmps10
  go_wp2_with fail
  refine HC.out.mono ?_
  rintro e w1 ⟨⟨hf, rfl⟩ | ⟨hf, rfl⟩, hB1⟩
  · have HF := Lib.hid hf
    have h12 := hf.twelve
    have hone := hf.one
    have HROW := Lib.hid (fun a (ha : a < t.elems.length) => row_short hf ha)
    have hB := below2 HW.out hB1
    have HB1 := Lib.hid hB1
    have HX1 := Lib.hid (HX.out.below hB1)
    clear hf hB1 c0 c1 c2 c3
    obtain ⟨x0, x1, x2, x3⟩ := HX1.out
    go_wp2_with fail
    clear x0 x1 x2 x3
    go_loopw [5, 15] (fun v i wr => ∃ k : Nat, k ≤ t.elems.length ∧ i = .int .i64 k ∧ Hid (wr.ownsRow w1.heap.size 9 1 v k (txtCs (M.elTs t k))) ∧ Below w1.heap.size w1 wr) (fun _ i _ => t.elems.length - (intOf i).toNat)
    case atStart => exact ⟨0, by omega, rfl, Lib.hid ⟨rfl, Or.inl ⟨rfl, rfl⟩⟩, Below.refl _ _⟩
    case round =>
      rename_i wr
      obtain ⟨k, hk, rfl, HO, hBr⟩ := hrel
      obtain ⟨av, ac, hv⟩ := own_slice HO.out
      subst hv
      have hz := hBr.size
      by_cases hkl : k < t.elems.length
      · obtain ⟨y0, y1, y2, y3⟩ := HX1.out.below hBr
        have n1 : (k : Int) < (t.elems.length : Int) := by omega
        have HE := Lib.hid (elemText_any t p k wr (HT.out.below (below2 HB1.out hBr)) HF.out hkl)
        go_wp2_with fail
        refine HE.out.mono ?_
        rintro e w2 ⟨rfl, hB2⟩
        have hz2' := hB2.size
        have HO2 := Lib.hid (own_below HO.out hB2)
        have hBr2 := hBr.trans (hB2.mono hz)
        obtain ⟨sx, hsx⟩ : ∃ sx, bs (M.elT t k) = sx := ⟨_, rfl⟩
        have hn := M.elTs_next t k
        have hcs : txtCs (M.elTs t (k + 1)) = txtCs (M.elTs t k) ++ [.string sx] := by rw [hn, txtCs_snoc, hsx]
        have HN := Lib.hid hcs
        rw [hsx]
        have hi := HI0.out
        have hz0 := HZ0.out
        have hz1 := HZ1.out
        have hz2 := HZ2.out
        clear hn hcs hsx hB2 y0 y1 y2 y3
        go_wp2_with (at_builtin; refine wpList_append_own _ rfl _ _ 22 rfl w1.heap.size 9 i0 (.string ⟨#[]⟩) 1 16 Try.underlying22 hi hz0 hz1 hz2 rfl (by decide) _ _ _ rfl (HO2.out.alloc _) ⟨w2.heap.size, 0, none⟩ 1 1 [.string sx] rfl rfl ?c1 ?c2 ?c3 ?c4 ?c5 ?_)
        case c1 =>
          intro j u hj
          match j, hj with
          | 0, hj => simp at hj; subst hj; simp [Addr.add]
        case c2 => intro u hu; simp at hu; subst hu; rfl
        case c3 => unfold maxLen; omega
        case c4 => omega
        case c5 => simp; omega
        intro v' w3 hown3 hgrow _
        have hB3 : Below w1.heap.size w1 w3 := (hBr2.alloc (by omega) _).grown hgrow (by simp; omega) (fun j hj => (HO2.out.lt j hj).1)
        have R1 := Lib.hid hown3
        clear hown3 hgrow hi hz0 hz1 hz2
        obtain ⟨bv, bc, rfl⟩ := own_slice R1.out
        go_wp2_with fail
        go_roundw
        case rel =>
          refine ⟨k + 1, by omega, by go_num, Lib.hid ?_, hB3⟩
          rw [HN.out]
          exact R1.out
        case measure => simp [intOf]; omega
      · obtain rfl : k = t.elems.length := by omega
        have m1 : decide ((t.elems.length : Int) < (t.elems.length : Int)) = false := decide_eq_false (by omega)
        obtain ⟨jb, jc, e, hjc, hjb, hcell⟩ := own_txt (M.elTs_len t t.elems.length) HO.out (by omega)
        obtain ⟨rfl, rfl⟩ : av = some ⟨jb, 0, none⟩ ∧ jc = ac := by cases e; exact ⟨rfl, rfl⟩
        obtain ⟨y0, y1, y2, y3⟩ := HX1.out.below hBr
        have hxs : ((M.elTs t t.elems.length).map bs).length = t.elems.length := by rw [List.length_map, M.elTs_len]
        have hmap : ((M.elTs t t.elems.length).map bs).map (fun x => x.data.toList) = M.elTs t t.elems.length := by rw [List.map_map]; exact (List.map_congr_left fun x _ => bl_bs x).trans (List.map_id _)
        have hjl : (Lib.join (M.elTs t t.elems.length) [59, 32]).length ≤ 2200 := by
          have h := M.join_len (M.elTs t t.elems.length) [59, 32] 181 (fun x hx => by
            unfold M.elTs at hx
            obtain ⟨a, ha, rfl⟩ := List.mem_map.1 hx
            exact M.elT_len HF.out a (HROW.out a (List.mem_range.1 ha)))
          rw [M.elTs_len] at h
          have : t.elems.length * (181 + [59, 32].length) ≤ 12 * 183 := Nat.mul_le_mul h12 (Nat.le_refl _)
          omega
        have hcall := fun W (hc : ∀ (j : Nat) (x : ByteArray), ((M.elTs t t.elems.length).map bs)[j]? = some x → W.cell? ⟨jb, 0 + j, none⟩ = some (.string x)) (hb : jb < W.heap.size) => Try.strings_Join jb 0 jc ((M.elTs t t.elems.length).map bs) ⟨#[59, 32]⟩ W hc hb (by rw [hxs]; omega) (by rw [hxs]; exact hjc) (by rw [hmap]; exact Nat.le_trans hjl (by omega))
        rw [hxs, hmap] at hcall
        have hnm : t.name.size ≤ 12 := by
          have := HF.out.name
          unfold M.isTabB M.isNameB at this
          simp only [Bool.and_eq_true, decide_eq_true_eq] at this
          rw [M.size_list] at this
          exact this.1.1.1.2
        have hJ := show bl (bs (Lib.join (M.elTs t t.elems.length) [59, 32])) = Lib.join (M.elTs t t.elems.length) [59, 32] from bl_bs _
        obtain ⟨J, hJe⟩ : ∃ J, bs (Lib.join (M.elTs t t.elems.length) [59, 32]) = J := ⟨_, rfl⟩
        have hcall2 : ∀ W, (∀ (j : Nat) (x : ByteArray), ((M.elTs t t.elems.length).map bs)[j]? = some x → W.cell? ⟨jb, 0 + j, none⟩ = some (.string x)) → jb < W.heap.size → Calls Try.prog 32 #[.slice (some ⟨jb, 0, none⟩) t.elems.length jc, .string ⟨#[59, 32]⟩] W fun e w' => e = .returned (.string J) ∧ Below W.heap.size W w' := fun W h1 h2 => by rw [← hJe]; exact hcall W h1 h2
        rw [hJe] at hJ
        have hJs : J.size ≤ 2200 := by rw [← bl_len, hJ]; exact hjl
        have HCJ := Lib.hid hcall2
        have HCELL := Lib.hid hcell
        have HTX := Lib.hid (show bl (((((⟨#[108, 97, 116, 116, 105, 99, 101, 32]⟩ : ByteArray) ++ t.name) ++ ⟨#[32, 123, 32]⟩) ++ J) ++ ⟨#[32, 125]⟩) = M.txt t from by
          rw [bl_cat, bl_cat, bl_cat, bl_cat, hJ]; rfl)
        have z1 : ¬ 9223372036854775807 < 8 + t.name.size := by omega
        have z2 : ¬ 9223372036854775807 < 8 + t.name.size + 3 := by omega
        have z3 : ¬ 9223372036854775807 < 8 + t.name.size + 3 + J.size := by omega
        have z4 : ¬ 9223372036854775807 < 8 + t.name.size + 3 + J.size + 2 := by omega
        have hBt := below2 hB hBr
        clear hcall hcall2 hjl hmap hxs hJ hJe hcell HROW e
        go_wp2_with fail
        go_region_with (go_at_call 32; refine (HCJ.out wr.drew HCELL.out hjb).mono ?_; rintro e w5 ⟨rfl, hB5⟩; have q0 := cell_below (w := wr.drew) y0 hB5)
        all_goals
          have hB6 := below2 hBt.drew hB5
          clear hB5
          go_wp2_with fail

          go_ret2
          exact tp_2 HF.out HTX.out hB6
  · have HF := Lib.hid hf
    have hB := below2 HW.out hB1
    clear hf hB1 c0 c1 c2 c3
    go_wp2_with fail
    go_ret2
    exact tp_1 HF.out hB
end Go.Proofs.Ytnhnjfoboepffaa
