/- DERIVED. Contracts of the document's own Comments and Blank; the walk of the statement on comments. -/
import Derived.Test.YtcaanpifkcaldaaDoorLexBn
import Derived.Test.YtcaanpifkcaldaaDoorLexTe0
import Derived.Test.YtcaanpifkcaldaaDoorLexTn1
namespace Go.Proofs.YtcaanpifkcaldaaDoor
open Go.RowKit Go.WideMaps Go.Maps Go.Shelf

set_option maxHeartbeats 2000000 in
set_option maxRecDepth 100000 in
theorem refComments_no (s : ByteArray) (w : World) (hs : s.size ≤ maxLen) (h : (M.fault s.data.toList).2 ≠ 0) :
    Calls Tryd.prog 15 #[.string s] w (CmPost (M.commentsR s.data.toList) w) := by
  obtain ⟨p, c, hf⟩ : ∃ p c, M.fault s.data.toList = (p, c) := ⟨_, _, rfl⟩
  have hres : M.commentsR s.data.toList = ([], p, c) := by unfold M.commentsR; rw [if_neg h, hf]
  rw [hf] at h
  dsimp only at h
  have h3 : ((c : Int) == 0) = false := by rw [beq_eq_false_iff_ne]; omega
  have h4 : ((c : Int) != 0) = true := by rw [bne_iff_ne]; omega
  have HF := Lib.hid hf
  have HRES := Lib.hid hres
  clear hf hres
  go_enter Tryd.func15, Tryd.ntmps15
  go_wp2_with fail
  refine (refCheck_any s _ hs).mono ?_
  rintro e w1 ⟨rfl, hB1⟩
  rw [HF.out]
  dsimp only
  go_wp2_with fail
  go_ret3
  exact ⟨none, 0, by rw [HRES.out]; rfl, fun _ => rfl, by rw [HRES.out]; exact Or.inl rfl, hB1⟩

theorem two_new (w : World) (x y : Value) (t : TypeId) : ∀ j u, ([x, y])[j]? = some u → (w.alloc (.cells #[x, y] t)).cell? ((⟨w.heap.size, 0, none⟩ : Addr).add j) = some u := by
  intro j u hj
  have e : (⟨w.heap.size, 0, none⟩ : Addr).add j = ⟨w.heap.size, j, none⟩ := by simp [Addr.add]; omega
  rw [e, World.cell?_alloc_at _ _ _ _ rfl]
  simpa using hj
theorem two_one (a b : Int) : ∀ u, u ∈ [Value.int .i64 a, Value.int .i64 b] → u.oneCell' = true := by
  intro u hu; simp at hu; rcases hu with rfl | rfl <;> rfl

set_option maxHeartbeats 4000000 in
set_option maxRecDepth 100000 in
theorem refComments_yes (s : ByteArray) (w : World) (h : (M.fault s.data.toList).2 = 0) :
    Calls Tryd.prog 15 #[.string s] w (CmPost (M.commentsR s.data.toList) w) := by
  have hsm : s.size ≤ 2500 := by rw [← M.size_list]; exact M.fault_small s.data.toList h
  have hres : M.commentsR s.data.toList = (M.comments s.data.toList, 0, 0) := by unfold M.commentsR; rw [if_pos h]
  have hz := M.size_list s
  obtain ⟨p, c, hf⟩ : ∃ p c, M.fault s.data.toList = (p, c) := ⟨_, _, rfl⟩
  rw [hf] at h
  dsimp only at h
  subst h
  obtain ⟨l, hl⟩ : ∃ l, s.data.toList = l := ⟨_, rfl⟩
  have hat : ∀ i, (h : i < s.size) → (h2 : i < l.length) → s[i] = l[i] := by
    intro i h h2
    subst hl
    rfl
  have hst := M.cmI_start l
  have HF := Lib.hid hf
  rw [hl] at hz hres ⊢
  have HRES := Lib.hid hres
  have HZ := Lib.hid hz
  have HAT := Lib.hid hat
  have HST := Lib.hid hst
  clear hf hres hz hat hl hst
  obtain ⟨i0, hi, hz0, hz1, hz2⟩ := info_parts stInfo
  have HI0 := Lib.hid hi
  have HZ0 := Lib.hid hz0
  have HZ1 := Lib.hid hz1
  have HZ2 := Lib.hid hz2
  clear hi hz0 hz1 hz2
  go_enter Tryd.func15, Tryd.ntmps15
  go_wp2_with fail
  refine (refCheck_any s _ (by unfold maxLen; omega)).mono ?_
  rintro e w0 ⟨rfl, hB0⟩
  rw [HF.out]
  dsimp only
  rw [show (((0 : Nat) : Int)) = (0 : Int) from rfl]
  go_wp2_with fail
  go_loopw [7, 8, 9] (fun v q i wr => ∃ (k : Nat) (out : List (Nat × Nat)) (x : Int), k ≤ s.size + 1 ∧ out.length ≤ k ∧ i = .int .i64 k ∧ q = .int .i64 x ∧ -1 ≤ x ∧ x ≤ k ∧ Hid (M.CmI l k x out) ∧ wr.ownsRow w0.heap.size 62 2 v out.length (stCells out) ∧ Below w0.heap.size w0 wr) (fun _ _ i _ => s.size + 1 - (intOf i).toNat)
  case atStart => exact ⟨0, [], -1, by omega, by simp, rfl, rfl, by omega, by omega, HST, ⟨rfl, Or.inl ⟨rfl, rfl⟩⟩, Below.refl _ _⟩
  case round =>
    rename World => wr
    obtain ⟨k, out, x, hk, hol, rfl, rfl, hx1, hx2, HC, hown, hB⟩ := hrel
    have HO := Lib.hid hown
    clear hown
    obtain ⟨av, ac, rfl⟩ := own_slice HO.out
    by_cases hle : k ≤ s.size
    · by_cases hcl : k = s.size ∨ ∃ h : k < l.length, l[k] = 10
      · have hcl2 : k = l.length ∨ ∃ h : k < l.length, l[k] = 10 := by
          rcases hcl with h | h
          · exact Or.inl (by rw [HZ.out]; exact h)
          · exact Or.inr h
        obtain ⟨g1, g2⟩ := M.cmI_close l k x out HC.out (by rw [HZ.out]; exact hle) hcl2
        clear hcl2
        by_cases hx0 : 0 ≤ x
        · obtain ⟨b, rfl, hbk, hci⟩ := g1 hx0
          have HCI := Lib.hid hci
          have hi := HI0.out
          have hz0 := HZ0.out
          have hz1 := HZ1.out
          have hz2 := HZ2.out
          have hzr := hB.size
          clear g1 g2 hci HC
          have hfin : ∀ v' w3, w3.ownsRow w0.heap.size 62 2 v' (out.length + 1) (stCells out ++ [.int .i64 b, .int .i64 k]) → (wr.alloc (.cells #[.int .i64 b, .int .i64 k] 62)).grownBy w3 (Value.slice av out.length ac).ownBlock →
              w3.ownsRow w0.heap.size 62 2 v' (out ++ [(b, k)]).length (stCells (out ++ [(b, k)])) ∧ Below w0.heap.size w0 w3 := by
            intro v' w3 h1 h2
            refine ⟨by rw [stCells_snoc, List.length_append]; exact h1, (hB.alloc hzr _).grown h2 (by simp; omega) (fun j hj => (HO.out.lt j hj).1)⟩
          have HFIN := Lib.hid hfin
          clear hfin
          by_cases hke : k = s.size
          · have d0 : ((k : Int) == (s.size : Int)) = true := by rw [hke]; exact beq_self_eq_true _
            clear hcl hke
            go_wp2_with (at_builtin; refine wpList_append_own _ rfl _ _ 32 rfl w0.heap.size 62 i0 (.agg #[.int .i64 0, .int .i64 0]) 2 16 Tryd.underlying32 hi hz0 hz1 hz2 rfl (by decide) _ _ _ rfl (HO.out.alloc _) ⟨wr.heap.size, 0, none⟩ 1 1 [.int .i64 b, .int .i64 k] rfl rfl ?n1 ?n2 ?n3 ?n4 ?n5 ?_)
            case n1 => exact two_new wr _ _ _
            case n2 => exact two_one _ _
            case n3 => unfold maxLen; omega
            case n4 => omega
            case n5 => simp; omega
            intro v' w3 hown' hgrow _
            obtain ⟨r1, r2⟩ := HFIN.out v' w3 hown' hgrow
            obtain ⟨bv, bc, rfl⟩ := own_slice r1
            have R1 := Lib.hid r1
            have R2 := Lib.hid r2
            clear hown' hgrow r1 r2 hi hz0 hz1 hz2
            go_wp2_with fail
            go_roundw
            case rel => exact ⟨k + 1, out ++ [(b, k)], -1, by omega, by simp; omega, by simp, rfl, by omega, by omega, HCI, R1.out, R2.out⟩
            case measure => simp [intOf]; omega
          · have hlt : k < s.size := by omega
            have h10 : s[k] = 10 := by
              rcases hcl with h | ⟨h, h2⟩
              · exact absurd h hke
              · rw [HAT.out k hlt h]; exact h2
            have d0 : ((k : Int) == (s.size : Int)) = false := by rw [beq_eq_false_iff_ne]; omega
            have e10 : ((s[k].toNat : Int) == 10) = true := by rw [h10]; rfl
            clear hcl hke h10
            go_wp2_with (at_builtin; refine wpList_append_own _ rfl _ _ 32 rfl w0.heap.size 62 i0 (.agg #[.int .i64 0, .int .i64 0]) 2 16 Tryd.underlying32 hi hz0 hz1 hz2 rfl (by decide) _ _ _ rfl (HO.out.alloc _) ⟨wr.heap.size, 0, none⟩ 1 1 [.int .i64 b, .int .i64 k] rfl rfl ?n1 ?n2 ?n3 ?n4 ?n5 ?_)
            case n1 => exact two_new wr _ _ _
            case n2 => exact two_one _ _
            case n3 => unfold maxLen; omega
            case n4 => omega
            case n5 => simp; omega
            intro v' w3 hown' hgrow _
            obtain ⟨r1, r2⟩ := HFIN.out v' w3 hown' hgrow
            obtain ⟨bv, bc, rfl⟩ := own_slice r1
            have R1 := Lib.hid r1
            have R2 := Lib.hid r2
            clear hown' hgrow r1 r2 hi hz0 hz1 hz2
            go_wp2_with fail
            go_roundw
            case rel => exact ⟨k + 1, out ++ [(b, k)], -1, by omega, by simp; omega, by simp, rfl, by omega, by omega, HCI, R1.out, R2.out⟩
            case measure => simp [intOf]; omega
        · have hxm : x = -1 := by omega
          have HCI := Lib.hid (g2 (by omega))
          subst hxm
          clear g1 g2 HC hx0
          by_cases hke : k = s.size
          · have d0 : ((k : Int) == (s.size : Int)) = true := by rw [hke]; exact beq_self_eq_true _
            clear hcl hke
            go_wp2_with fail
            exact ⟨⟨k + 1, out, -1, by omega, by omega, by simp, rfl, by omega, by omega, HCI, HO.out, hB⟩, by simp [intOf]; omega⟩
          · have hlt : k < s.size := by omega
            have h10 : s[k] = 10 := by
              rcases hcl with h | ⟨h, h2⟩
              · exact absurd h hke
              · rw [HAT.out k hlt h]; exact h2
            have d0 : ((k : Int) == (s.size : Int)) = false := by rw [beq_eq_false_iff_ne]; omega
            have e10 : ((s[k].toNat : Int) == 10) = true := by rw [h10]; rfl
            clear hcl hke h10
            go_wp2_with fail
            exact ⟨⟨k + 1, out, -1, by omega, by omega, by simp, rfl, by omega, by omega, HCI, HO.out, hB⟩, by simp [intOf]; omega⟩
      · have hlt : k < s.size := by
          rcases Nat.lt_or_ge k s.size with h | h
          · exact h
          · exact absurd (Or.inl (by omega)) hcl
        have hll : k < l.length := by rw [HZ.out]; exact hlt
        have h10 : l[k] ≠ 10 := fun h => hcl (Or.inr ⟨hll, h⟩)
        have hsl := HAT.out k hlt hll
        have e10 : ((s[k].toNat : Int) == 10) = false := by
          rw [hsl, beq_eq_false_iff_ne]; exact fun q => h10 (UInt8.toNat_inj.1 (by have : l[k].toNat = 10 := by omega
                                                                                   rw [this]; rfl))
        have d0 : ((k : Int) == (s.size : Int)) = false := by rw [beq_eq_false_iff_ne]; omega
        have hskip := M.cmI_skip l k x out HC.out hll h10
        have hopen := M.cmI_open l k x out HC.out hll
        by_cases h37 : l[k] = 37
        · have e37 : ((s[k].toNat : Int) == 37) = true := by rw [hsl, h37]; rfl
          by_cases hx0 : 0 ≤ x
          · have HCI := Lib.hid (hskip (Or.inr hx0))
            have d2 : decide (x < 0) = false := decide_eq_false (by omega)
            clear hcl hsl hskip hopen h37 h10 HC
            go_wp2_with fail
            exact ⟨⟨k + 1, out, x, by omega, by omega, by simp, rfl, by omega, by omega, HCI, HO.out, hB⟩, by simp [intOf]; omega⟩
          · have hxm : x = -1 := by omega
            have HCI := Lib.hid (hopen h37 (by omega))
            subst hxm
            clear hcl hsl hskip hopen h37 h10 HC hx0
            go_wp2_with fail
            exact ⟨⟨k + 1, out, (k : Int), by omega, by omega, by simp, rfl, by omega, by omega, HCI, HO.out, hB⟩, by simp [intOf]; omega⟩
        · have e37 : ((s[k].toNat : Int) == 37) = false := by
            rw [hsl, beq_eq_false_iff_ne]; exact fun q => h37 (UInt8.toNat_inj.1 (by have : l[k].toNat = 37 := by omega
                                                                                     rw [this]; rfl))
          have HCI := Lib.hid (hskip (Or.inl h37))
          clear hcl hsl hskip hopen h37 h10 HC
          go_wp2_with fail
          exact ⟨⟨k + 1, out, x, by omega, by omega, by simp, rfl, by omega, by omega, HCI, HO.out, hB⟩, by simp [intOf]; omega⟩
    · have hkk : k = s.size + 1 := by omega
      have hdone := M.cmI_done l x out (by rw [HZ.out]; rw [hkk] at HC; exact HC.out)
      obtain ⟨aa, cc, e, hnc, ha⟩ := own_st HO.out
      cases e
      have HD := Lib.hid hdone
      have HA := Lib.hid ha
      have HNC := Lib.hid hnc
      have hno : ¬ (k : Int) ≤ (s.size : Int) := by omega
      clear hdone ha hnc hkk
      go_wp2_with fail
      go_ret3
      exact ⟨av, ac, by rw [HRES.out, ← HD.out]; rfl, HNC.out, by rw [HRES.out, ← HD.out]; exact HA.out, below2 hB0 hB⟩

theorem refComments_any (s : ByteArray) (w : World) (hs : s.size ≤ maxLen) :
    Calls Tryd.prog 15 #[.string s] w (CmPost (M.commentsR s.data.toList) w) := by
  by_cases h : (M.fault s.data.toList).2 = 0
  · exact refComments_yes s w h
  · exact refComments_no s w hs h
theorem lexCommentsF_any (s : ByteArray) (w : World) (hs : s.size ≤ maxLen) :
    Calls Tryd.prog 13 #[.string s] w (CmPost (M.commentsR s.data.toList) w) := by
  by_cases h : (M.fault s.data.toList).2 = 0
  · exact lexComments_yes s w h
  · exact lexComments_no s w hs h

namespace M
/-- Whether one of the first k stretches holds a place. -/
def covB (cs : List (Nat × Nat)) (i k : Nat) : Bool := (cs.take k).any fun x => decide (x.1 ≤ i) && decide (i < x.2)
theorem covB_zero (cs : List (Nat × Nat)) (i : Nat) : covB cs i 0 = false := by simp [covB]
theorem covB_succ (cs : List (Nat × Nat)) (i k : Nat) (hk : k < cs.length) : covB cs i (k + 1) = (covB cs i k || (decide (cs[k].1 ≤ i) && decide (i < cs[k].2))) := by
  unfold covB
  rw [List.take_succ_eq_append_getElem hk, List.any_append]
  simp
theorem covB_blank (s : List UInt8) (i : Nat) (h : i < s.length) : (blank s)[i]'(by rw [blank_len]; exact h) = if covB (comments s) i (comments s).length = true then 32 else s[i] := by
  have hc : covB (comments s) i (comments s).length = true ↔ ∃ x ∈ comments s, x.1 ≤ i ∧ i < x.2 := by
    unfold covB
    rw [List.take_length, List.any_eq_true]
    simp
  rcases blankBy_at (comments s) s i (by rw [blankBy_len]; exact h) h with ⟨q, k⟩ | ⟨q, k⟩
  · rw [if_pos (hc.2 q)]; exact k
  · rw [if_neg (fun z => q (hc.1 z))]; exact k
/-- The byte of a text, or a blank, as a text of its own. -/
def by1 (s : ByteArray) (i : Nat) (b : Bool) : ByteArray := if b = true then ⟨#[32]⟩ else s.extract i (i + 1)
theorem by1_size (s : ByteArray) (i : Nat) (b : Bool) (h : i < s.size) : (by1 s i b).size = 1 := by
  cases b
  · show (s.extract i (i + 1)).size = 1
    rw [ByteArray.size_extract]; omega
  · rfl
theorem blank_take (s : ByteArray) (i : Nat) (h : i < s.size) : str ((blank s.data.toList).take i) ++ by1 s i (covB (comments s.data.toList) i (comments s.data.toList).length) = str ((blank s.data.toList).take (i + 1)) := by
  have hz := size_list s
  have hb : i < (blank s.data.toList).length := by rw [blank_len, hz]; exact h
  apply ba_ext
  rw [ByteArray.data_append, Array.toList_append, str_list, str_list, List.take_succ_eq_append_getElem hb, covB_blank s.data.toList i (by rw [hz]; exact h)]
  congr 1
  cases hc : covB (comments s.data.toList) i (comments s.data.toList).length
  · show (s.extract i (i + 1)).data.toList = [s.data.toList[i]]
    rw [sub_list, take_drop_sub, Nat.add_sub_cancel_left, List.drop_eq_getElem_cons (by rw [hz]; exact h)]
    rfl
  · rfl
end M

set_option maxHeartbeats 4000000 in
set_option maxRecDepth 100000 in
theorem refBlank_yes (s : ByteArray) (w : World) (h : (M.fault s.data.toList).2 = 0) :
    Calls Tryd.prog 16 #[.string s] w fun e w' => e = .returned (.tuple #[.string (M.str (M.blank s.data.toList)), .int .i64 0, .int .i64 0]) ∧ Below w.heap.size w w' := by
  have hsm : s.size ≤ 2500 := by rw [← M.size_list]; exact M.fault_small s.data.toList h
  have hcr : M.commentsR s.data.toList = (M.comments s.data.toList, 0, 0) := by unfold M.commentsR; rw [if_pos h]
  have hlen := M.comments_len s.data.toList
  have hall : (M.blank s.data.toList).take s.size = M.blank s.data.toList := List.take_of_length_le (by rw [M.blank_len, M.size_list]; exact Nat.le_refl _)
  have hle := M.comments_le s.data.toList
  have hbt := M.blank_take s
  rw [M.size_list] at hlen
  obtain ⟨cs, hcs⟩ : ∃ cs, M.comments s.data.toList = cs := ⟨_, rfl⟩
  rw [hcs] at hcr hlen hle hbt
  obtain ⟨T, hT⟩ : ∃ T : Nat → ByteArray, ∀ i, M.str ((M.blank s.data.toList).take i) = T i := ⟨_, fun _ => rfl⟩
  have hT0 : T 0 = ⟨#[]⟩ := by rw [← hT]; rfl
  have hTn : T s.size = M.str (M.blank s.data.toList) := by rw [← hT, hall]
  have hTs : ∀ i, i < s.size → T i ++ M.by1 s i (M.covB cs i cs.length) = T (i + 1) := fun i hi => by rw [← hT, ← hT]; exact hbt i hi
  have hTz : ∀ i, i ≤ s.size → (T i).size = i := fun i hi => by rw [← hT, M.str_size, List.length_take, M.blank_len, M.size_list]; omega
  have HCR := Lib.hid hcr
  have HT0 := Lib.hid hT0
  have HTN := Lib.hid hTn
  have HTS := Lib.hid hTs
  have HTZ := Lib.hid hTz
  have HLE := Lib.hid hle
  clear hcr hall hle hbt hcs hT hT0 hTn hTs hTz h
  go_enter Tryd.func16, Tryd.ntmps16
  go_wp2_with fail
  refine (refComments_any s _ (by unfold maxLen; omega)).mono ?_
  rintro e w1 ⟨a1, c1, rfl, _, hs1, hB1⟩
  rw [HCR.out] at hs1 ⊢
  dsimp only at hs1 ⊢
  rw [show (((0 : Nat) : Int)) = (0 : Int) from rfl]
  have HS := Lib.hid hs1
  clear hs1
  go_wp2_with fail
  go_loop [8, 9] (fun v i => ∃ k : Nat, k ≤ s.size ∧ i = .int .i64 k ∧ v = .string (T k)) (fun _ i => s.size - (intOf i).toNat)
  case atStart => exact ⟨0, by omega, rfl, by rw [HT0.out]⟩
  case round =>
    obtain ⟨i, hi, rfl, rfl⟩ := hrel
    by_cases hlt : i < s.size
    · have hi1 : (i : Int) + 1 ≤ (s.size : Int) := by omega
      go_wp2_with fail
      go_loop [10, 11] (fun b q => ∃ k : Nat, k ≤ cs.length ∧ q = .int .i64 k ∧ b = .string (M.by1 s i (M.covB cs i k))) (fun _ q => cs.length - (intOf q).toNat)
      case atStart => exact ⟨0, by omega, rfl, by rw [M.covB_zero]; rfl⟩
      case round =>
        obtain ⟨k, hk, rfl, rfl⟩ := hrel
        by_cases hkl : k < cs.length
        · obtain ⟨b, off, rfl, ha⟩ := HS.out.at hkl
          have c0 := ha.c0 k hkl
          have c1' := ha.c1 k hkl
          have hsu := M.covB_succ cs i k hkl
          obtain ⟨⟨x, y⟩, hxy⟩ : ∃ z, cs[k] = z := ⟨_, rfl⟩
          rw [hxy] at c0 c1' hsu
          dsimp only at c0 c1' hsu
          have HSU := Lib.hid hsu
          clear ha hsu hxy
          by_cases h1 : x ≤ i
          · by_cases h2 : i < y
            · have hnx : M.by1 s i (M.covB cs i (k + 1)) = ⟨#[32]⟩ := by rw [HSU.out, decide_eq_true h1, decide_eq_true h2]; unfold M.by1; simp
              have HNX := Lib.hid hnx
              clear hnx
              go_wp2_with fail
              exact ⟨⟨k + 1, by omega, by simp, by rw [HNX.out]⟩, by simp [intOf]; omega⟩
            · have hnx : M.by1 s i (M.covB cs i (k + 1)) = M.by1 s i (M.covB cs i k) := by rw [HSU.out, decide_eq_false h2]; simp
              have HNX := Lib.hid hnx
              clear hnx
              go_wp2_with fail
              exact ⟨⟨k + 1, by omega, by simp, by rw [HNX.out]⟩, by simp [intOf]; omega⟩
          · have hnx : M.by1 s i (M.covB cs i (k + 1)) = M.by1 s i (M.covB cs i k) := by rw [HSU.out, decide_eq_false h1]; simp
            have HNX := Lib.hid hnx
            clear hnx
            go_wp2_with fail
            exact ⟨⟨k + 1, by omega, by simp, by rw [HNX.out]⟩, by simp [intOf]; omega⟩
        · obtain rfl : k = cs.length := by omega
          have hnl : ¬ ((cs.length : Int) < (cs.length : Int)) := by omega
          obtain ⟨B, hB⟩ : ∃ B, M.by1 s i (M.covB cs i cs.length) = B := ⟨_, rfl⟩
          have hBz : B.size = 1 := by rw [← hB]; exact M.by1_size s i _ hlt
          have hnext := HTS.out i hlt
          rw [hB] at hnext ⊢
          have htz := HTZ.out i hi
          obtain ⟨O, hO⟩ : ∃ O, T i = O := ⟨_, rfl⟩
          rw [hO] at hnext htz ⊢
          have hsz : ¬ 9223372036854775807 < O.size + B.size := by omega
          have HNEXT := Lib.hid hnext
          clear hB hnext hO
          go_wp2_with fail
          exact ⟨⟨i + 1, by omega, by simp, by rw [HNEXT.out]⟩, by simp [intOf]; omega⟩
    · obtain rfl : i = s.size := by omega
      go_wp2_with fail
      go_ret3
      exact ⟨by rw [HTN.out]; rfl, hB1⟩

set_option maxHeartbeats 1000000 in
set_option maxRecDepth 100000 in
theorem refBlank_no (s : ByteArray) (w : World) (hs : s.size ≤ maxLen) (h : (M.fault s.data.toList).2 ≠ 0) :
    Calls Tryd.prog 16 #[.string s] w fun e w' => e = .returned (.tuple #[.string ⟨#[]⟩, .int .i64 (M.fault s.data.toList).1, .int .i64 (M.fault s.data.toList).2]) ∧ Below w.heap.size w w' := by
  obtain ⟨p, c, hf⟩ : ∃ p c, M.fault s.data.toList = (p, c) := ⟨_, _, rfl⟩
  have hres : M.commentsR s.data.toList = ([], p, c) := by unfold M.commentsR; rw [if_neg h, hf]
  rw [hf] at h
  dsimp only at h
  have h3 : ((c : Int) == 0) = false := by rw [beq_eq_false_iff_ne]; omega
  have h4 : ((c : Int) != 0) = true := by rw [bne_iff_ne]; omega
  have HF := Lib.hid hf
  have HRES := Lib.hid hres
  clear hf hres
  go_enter Tryd.func16, Tryd.ntmps16
  go_wp2_with fail
  refine (refComments_any s _ hs).mono ?_
  rintro e w1 ⟨a1, c1, rfl, _, _, hB1⟩
  rw [HRES.out]
  dsimp only
  go_wp2_with fail
  go_ret3
  exact ⟨by rw [HF.out]; rfl, hB1⟩

namespace M
def blankR (s : List UInt8) : ByteArray × Nat × Nat := if (fault s).2 = 0 then (str (blank s), 0, 0) else (⟨#[]⟩, (fault s).1, (fault s).2)
end M
theorem refBlank_any (s : ByteArray) (w : World) (hs : s.size ≤ maxLen) :
    Calls Tryd.prog 16 #[.string s] w fun e w' => e = .returned (.tuple #[.string (M.blankR s.data.toList).1, .int .i64 (M.blankR s.data.toList).2.1, .int .i64 (M.blankR s.data.toList).2.2]) ∧ Below w.heap.size w w' := by
  by_cases h : (M.fault s.data.toList).2 = 0
  · have e : M.blankR s.data.toList = (M.str (M.blank s.data.toList), 0, 0) := by unfold M.blankR; rw [if_pos h]
    rw [e]; exact refBlank_yes s w h
  · have e : M.blankR s.data.toList = (⟨#[]⟩, (M.fault s.data.toList).1, (M.fault s.data.toList).2) := by unfold M.blankR; rw [if_neg h]
    rw [e]; exact refBlank_no s w hs h
theorem lexBlank_any (s : ByteArray) (w : World) (hs : s.size ≤ maxLen) :
    Calls Tryd.prog 14 #[.string s] w fun e w' => e = .returned (.tuple #[.string (M.blankR s.data.toList).1, .int .i64 (M.blankR s.data.toList).2.1, .int .i64 (M.blankR s.data.toList).2.2]) ∧ Below w.heap.size w w' := by
  by_cases h : (M.fault s.data.toList).2 = 0
  · have e : M.blankR s.data.toList = (M.str (M.blank s.data.toList), 0, 0) := by unfold M.blankR; rw [if_pos h]
    rw [e]; exact blank_yes s w h
  · have e : M.blankR s.data.toList = (⟨#[]⟩, (M.fault s.data.toList).1, (M.fault s.data.toList).2) := by unfold M.blankR; rw [if_neg h]
    rw [e]; exact blank_no s w hs h

theorem fields_st : Tryd.prog.underlying 62 = some (.struct (Tryd.prog.fieldsOf 62)) := by kernel_rfl
theorem stood_st : Tryd.prog.stoodInHeld 62 = false := by kernel_rfl
set_option maxHeartbeats 1000000 in
set_option maxRecDepth 100000 in
theorem eqSt_run (x y : Nat × Nat) (w : World) : (Op.equalIn 10000 62 (stV x) (stV y)).run Tryd.prog w = .ok (decide (x = y)) w := by
  have u3 := Tryd.underlying3
  have a3 := Tryd.isAgg3
  have z3 := Tryd.sizeOf3
  rw [show (10000 : Nat) = 9999 + 1 from rfl, run_equalIn_agg w 9999 62 _ _ fields_st stood_st]
  simp only [Program.fieldsOf, Tryd.underlying62]
  go_simp
  obtain ⟨a, b⟩ := x
  obtain ⟨c, d⟩ := y
  by_cases h1 : a = c <;> by_cases h2 : b = d <;> simp [h1, h2] <;> omega

set_option maxHeartbeats 1000000 in
set_option maxRecDepth 100000 in
theorem same_any (a a' : Option Addr) (c c' : Nat) (l : List (Nat × Nat)) (w : World) (hl : l.length ≤ 1000000) (ho : StSl w a l) (hn : StSl w a' l) :
    Calls Tryd.prog 17 #[.slice a l.length c, .slice a' l.length c'] w fun e w' => e = .returned (.bool true) ∧ Below w.heap.size w w' := by
  have HO := Lib.hid ho
  have HN := Lib.hid hn
  clear ho hn
  go_enter Tryd.func17, Tryd.ntmps17
  go_wp2_with fail
  go_loopw [5] (fun i wr => ∃ k : Nat, k ≤ l.length ∧ i = .int .i64 k ∧ Below w.heap.size w wr) (fun i _ => l.length - (intOf i).toNat)
  case atStart => exact ⟨0, by omega, rfl, Below.refl _ _⟩
  case round =>
    rename World => wr
    obtain ⟨k, hk, rfl, hB⟩ := hrel
    by_cases hkl : k < l.length
    · obtain ⟨b, off, rfl, ha⟩ := HO.out.at hkl
      obtain ⟨b', off', rfl, ha'⟩ := HN.out.at hkl
      have c0 := (ha.below hB).c0 k hkl
      have c1 := (ha.below hB).c1 k hkl
      have d0 := (ha'.below hB).c0 k hkl
      have d1 := (ha'.below hB).c1 k hkl
      have n1 : (k : Int) < (l.length : Int) := by omega
      have n2 : (0 : Int) ≤ (k : Int) := by omega
      have hq := fun W => eqSt_run l[k] l[k] W
      simp only [decide_true] at hq
      clear ha ha'
      go_wp2_with fail
      go_quiet (fail)
      go_wp2_with fail
      exact ⟨⟨k + 1, by omega, by simp, belowN hB _⟩, by simp [intOf]; omega⟩
    · have hkl' : ¬ (k : Int) < (l.length : Int) := by omega
      go_wp2_with fail
      go_ret
      exact ⟨rfl, hB⟩

set_option maxHeartbeats 1000000 in
set_option maxRecDepth 100000 in
theorem lexComments_any (s : ByteArray) (w : World) (hw : Ready w) (hs : s.size ≤ maxLen) :
    Calls Tryd.prog 4 #[.string s] w fun e w' => e = .returned (.bool true) ∧ Below w.heap.size w w' := by
  have HW := Lib.hid hw
  clear hw
  by_cases h3 : s.size ≤ 3000
  · have d1 : decide (s.size ≤ 3000) = true := decide_eq_true h3
    have D1 := Lib.hid d1
    obtain ⟨l, p, c, hr⟩ : ∃ l p c, M.commentsR s.data.toList = (l, p, c) := ⟨_, _, _, rfl⟩
    obtain ⟨t, q, d, hb⟩ : ∃ t q d, M.blankR s.data.toList = (t, q, d) := ⟨_, _, _, rfl⟩
    have hll : l.length ≤ 3001 := by
      have h1 : l = (M.commentsR s.data.toList).1 := by rw [hr]
      rw [h1]
      unfold M.commentsR
      have h2 := M.comments_len s.data.toList
      rw [M.size_list] at h2
      split
      · dsimp only; omega
      · simp
    have HR := Lib.hid hr
    have HBK := Lib.hid hb
    clear hr d1 hb
    go_enter Tryd.func4, Tryd.ntmps4
    go_wp2_with fail
    refine (short_any s _).mono ?_
    rintro e w1 ⟨rfl, hBw⟩
    rw [D1.out]
    go_wp2_with fail
    refine (lexCommentsF_any s _ hs).mono ?_
    rintro e w2 ⟨a1, k1, rfl, _, hs1, hB2⟩
    rw [HR.out] at hs1 ⊢
    dsimp only at hs1 ⊢
    replace hBw := below2 hBw hB2
    have HL1 := Lib.hid hs1
    clear hB2 hs1
    go_wp2_with fail
    refine (lexBlank_any s _ hs).mono ?_
    rintro e w3 ⟨rfl, hB2⟩
    rw [HBK.out]
    dsimp only
    replace hBw := below2 hBw hB2
    replace HL1 := Lib.hid (HL1.out.below hB2)
    clear hB2
    go_wp2_with fail
    refine (refComments_any s _ hs).mono ?_
    rintro e w4 ⟨a2, k2, rfl, _, hs2, hB2⟩
    rw [HR.out] at hs2 ⊢
    dsimp only at hs2 ⊢
    replace hBw := below2 hBw hB2
    replace HL1 := Lib.hid (HL1.out.below hB2)
    have HM2 := Lib.hid hs2
    clear hB2 hs2
    go_wp2_with fail
    refine (refBlank_any s _ hs).mono ?_
    rintro e w5 ⟨rfl, hB2⟩
    rw [HBK.out]
    dsimp only
    replace hBw := below2 hBw hB2
    replace HL1 := Lib.hid (HL1.out.below hB2)
    replace HM2 := Lib.hid (HM2.out.below hB2)
    clear hB2
    go_wp2_with fail
    refine (same_any a1 a2 k1 k2 l _ (by omega) HL1.out HM2.out).mono ?_
    rintro e w6 ⟨rfl, hB2⟩
    replace hBw := below2 hBw hB2
    clear hB2
    go_wp2_with fail
    refine (awake_any _ (HW.out.below hBw)).mono ?_
    rintro e w8 ⟨rfl, hB2⟩
    go_wp2_with fail
    go_ret
    exact ⟨rfl, below2 hBw hB2⟩
  · have d1 : decide (s.size ≤ 3000) = false := decide_eq_false h3
    have D1 := Lib.hid d1
    clear d1
    go_enter Tryd.func4, Tryd.ntmps4
    go_wp2_with fail
    refine (short_any s _).mono ?_
    rintro e w1 ⟨rfl, hB1⟩
    rw [D1.out]
    go_wp2_with fail
    refine (awake_any _ (HW.out.below hB1)).mono ?_
    rintro e w8 ⟨rfl, hB2⟩
    go_wp2_with fail
    go_ret
    exact ⟨rfl, below2 hB1 hB2⟩
end Go.Proofs.YtcaanpifkcaldaaDoor
