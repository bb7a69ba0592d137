/- Texts of one's own, joined: OrdA, OrdM, OrdE. -/
import Derived.Test.YtnhnjfoboepffaaGr1
import Derived.Test.YtnhnjfoboepffaaShelf
import Derived.Laws.RangeAny
namespace Go.Proofs.Ytnhnjfoboepffaa
open Go.RowKit

namespace M
structure Tb where
  name : ByteArray
  elems : List ByteArray
  above : List (List Int)
  wrong : List Bool
/-- Whether a table is not more than the statements look at. -/
def thinB (t : Tb) : Bool := decide (t.elems.length ≤ 20) && decide (t.above.length ≤ 20) && decide (t.wrong.length ≤ 20) && decide (t.name.size ≤ 30) && (t.elems.all fun s => decide (s.size ≤ 30)) && t.above.all fun l => decide (l.length ≤ 20)
end M
/-- Where the parts of a table lie. -/
structure Tp where
  ea : Option Addr
  ec : Nat
  aa : Option Addr
  ac : Nat
  wa : Option Addr
  wc : Nat
abbrev tbA (t : M.Tb) (p : Tp) : Array Value := #[.string t.name, .slice p.ea t.elems.length p.ec, .slice p.aa t.above.length p.ac, .slice p.wa t.wrong.length p.wc]
abbrev tbV (t : M.Tb) (p : Tp) : Value := .agg (tbA t p)
/-- A table in memory. -/
structure TbIn (w : World) (t : M.Tb) (p : Tp) : Prop where
  es : StrSl w p.ea t.elems
  as_ : RowSl w p.aa t.above
  ws : BoolSl w p.wa t.wrong
  en : p.ea = none → p.ec = 0
  an : p.aa = none → p.ac = 0
  wn : p.wa = none → p.wc = 0
  el : t.elems.length ≤ p.ec
  al : t.above.length ≤ p.ac
  wl : t.wrong.length ≤ p.wc
theorem TbIn.below {w w' : World} {t : M.Tb} {p : Tp} (h : TbIn w t p) (hB : Below w.heap.size w w') : TbIn w' t p := ⟨h.es.below hB, h.as_.below hB, h.ws.below hB, h.en, h.an, h.wn, h.el, h.al, h.wl⟩
/-- The cells of a box that holds a table. -/
structure TbBox (w : World) (B : Nat) (t : M.Tb) (p : Tp) : Prop where
  c0 : w.cell? ⟨B, 0, none⟩ = some (.string t.name)
  c1 : w.cell? ⟨B, 1, none⟩ = some (.slice p.ea t.elems.length p.ec)
  c2 : w.cell? ⟨B, 2, none⟩ = some (.slice p.aa t.above.length p.ac)
  c3 : w.cell? ⟨B, 3, none⟩ = some (.slice p.wa t.wrong.length p.wc)
theorem tbBox {w : World} {B : Nat} {t : M.Tb} {p : Tp} {ty : TypeId} (h : w.heap[B]? = some (.cells (tbA t p) ty (0, 0))) : TbBox w B t p :=
  ⟨by rw [Lib.cell_of_heap h]; rfl, by rw [Lib.cell_of_heap h]; rfl, by rw [Lib.cell_of_heap h]; rfl, by rw [Lib.cell_of_heap h]; rfl⟩
theorem TbBox.below {w w' : World} {B : Nat} {t : M.Tb} {p : Tp} (h : TbBox w B t p) (hB : Below w.heap.size w w') : TbBox w' B t p := ⟨cell_below h.c0 hB, cell_below h.c1 hB, cell_below h.c2 hB, cell_below h.c3 hB⟩

theorem M.thin_parts {t : M.Tb} : M.thinB t = true ↔ (t.elems.length ≤ 20 ∧ t.above.length ≤ 20 ∧ t.wrong.length ≤ 20 ∧ t.name.size ≤ 30) ∧ (∀ s, s ∈ t.elems → s.size ≤ 30) ∧ ∀ l, l ∈ t.above → l.length ≤ 20 := by
  unfold M.thinB
  simp only [Bool.and_eq_true, decide_eq_true_eq, List.all_eq_true]
  constructor
  · rintro ⟨⟨⟨⟨⟨a, b⟩, c⟩, d⟩, e⟩, f⟩; exact ⟨⟨a, b, c, d⟩, e, f⟩
  · rintro ⟨⟨a, b, c, d⟩, e, f⟩; exact ⟨⟨⟨⟨⟨a, b⟩, c⟩, d⟩, e⟩, f⟩

set_option maxHeartbeats 1000000 in
set_option maxRecDepth 100000 in
theorem thin_no (t : M.Tb) (p : Tp) (w : World) (h : ¬ (t.elems.length ≤ 20 ∧ t.above.length ≤ 20 ∧ t.wrong.length ≤ 20 ∧ t.name.size ≤ 30)) :
    Calls Try.prog 6 #[tbV t p] w fun e w' => e = .returned (.bool false) ∧ Below w.heap.size w w' := by
  have hb := tbBox (t := t) (p := p) (box_new w (tbA t p) 26)
  obtain ⟨c0, c1, c2, c3⟩ := hb
  by_cases h1 : t.elems.length ≤ 20
  · have d1 : decide ((20 : Int) < (t.elems.length : Int)) = false := decide_eq_false (by omega)
    by_cases h2 : t.above.length ≤ 20
    · have d2 : decide ((20 : Int) < (t.above.length : Int)) = false := decide_eq_false (by omega)
      by_cases h3 : t.wrong.length ≤ 20
      · have d3 : decide ((20 : Int) < (t.wrong.length : Int)) = false := decide_eq_false (by omega)
        have d4 : decide ((30 : Int) < (t.name.size : Int)) = true := decide_eq_true (by omega)
        clear h
        go_enter Try.func6, Try.ntmps6
        go_wp2_with fail
        go_ret
        exact ⟨rfl, below1 _ _⟩
      · have d3 : decide ((20 : Int) < (t.wrong.length : Int)) = true := decide_eq_true (by omega)
        clear h
        go_enter Try.func6, Try.ntmps6
        go_wp2_with fail
        go_ret
        exact ⟨rfl, below1 _ _⟩
    · have d2 : decide ((20 : Int) < (t.above.length : Int)) = true := decide_eq_true (by omega)
      clear h
      go_enter Try.func6, Try.ntmps6
      go_wp2_with fail
      go_ret
      exact ⟨rfl, below1 _ _⟩
  · have d1 : decide ((20 : Int) < (t.elems.length : Int)) = true := decide_eq_true (by omega)
    clear h
    go_enter Try.func6, Try.ntmps6
    go_wp2_with fail
    go_ret
    exact ⟨rfl, below1 _ _⟩

set_option maxHeartbeats 2000000 in
set_option maxRecDepth 100000 in
theorem thin_yes (t : M.Tb) (p : Tp) (w : World) (ht : TbIn w t p) (h1 : t.elems.length ≤ 20) (h2 : t.above.length ≤ 20) (h3 : t.wrong.length ≤ 20) (h4 : t.name.size ≤ 30) :
    Calls Try.prog 6 #[tbV t p] w fun e w' => e = .returned (.bool (M.thinB t)) ∧ Below w.heap.size w w' := by
  have d1 : decide ((20 : Int) < (t.elems.length : Int)) = false := decide_eq_false (by omega)
  have d2 : decide ((20 : Int) < (t.above.length : Int)) = false := decide_eq_false (by omega)
  have d3 : decide ((20 : Int) < (t.wrong.length : Int)) = false := decide_eq_false (by omega)
  have d4 : decide ((30 : Int) < (t.name.size : Int)) = false := decide_eq_false (by omega)
  have HT := Lib.hid (ht.below (below1 w (.cells (tbA t p) 26)))
  obtain ⟨c0, c1, c2, c3⟩ := tbBox (t := t) (p := p) (box_new w (tbA t p) 26)
  clear ht
  go_enter Try.func6, Try.ntmps6
  go_wp2_with fail
  go_loop [3] (fun i => ∃ k : Nat, k ≤ t.elems.length ∧ i = .int .i64 k ∧ Hid (∀ j, (hj : j < t.elems.length) → j < k → t.elems[j].size ≤ 30)) (fun i => t.elems.length - (intOf i).toNat)
  case atStart => exact ⟨0, by omega, rfl, Lib.hid (fun j _ hj => by omega)⟩
  case round =>
    obtain ⟨k, hk, rfl, HA⟩ := hrel
    by_cases hkl : k < t.elems.length
    · obtain ⟨b, off, e, ha⟩ := HT.out.es.at hkl
      have q := ha.at_ k hkl
      rw [e] at c1
      have n1 : (k : Int) < (t.elems.length : Int) := by omega
      have n2 : (0 : Int) ≤ (k : Int) := by omega
      have hno : 30 < t.elems[k].size → M.thinB t = false := fun hn => by
        cases hb : M.thinB t
        · rfl
        · have := (M.thin_parts.1 hb).2.1 _ (List.getElem_mem hkl); omega
      have hnx : t.elems[k].size ≤ 30 → ∀ j, (hj : j < t.elems.length) → j < k + 1 → t.elems[j].size ≤ 30 := fun hn j hj hjk => by
        rcases Nat.lt_succ_iff_lt_or_eq.1 hjk with h | rfl
        · exact HA.out j hj h
        · exact hn
      obtain ⟨x, hx⟩ : ∃ x, t.elems[k] = x := ⟨_, rfl⟩
      rw [hx] at q hno hnx
      have HNO := Lib.hid hno
      have HNX := Lib.hid hnx
      clear hx hno hnx ha e
      by_cases h30 : x.size ≤ 30
      · have d5 : decide ((30 : Int) < (x.size : Int)) = false := decide_eq_false (by omega)
        have HN := Lib.hid (HNX.out h30)
        go_wp2_with fail
        go_round
        case rel => exact ⟨k + 1, by omega, by go_num, HN⟩
        case measure => simp [intOf]; omega
      · have d5 : decide ((30 : Int) < (x.size : Int)) = true := decide_eq_true (by omega)
        have HN := Lib.hid (HNO.out (by omega))
        go_wp2_with fail
        go_ret
        exact ⟨ret_bool HN.out.symm, below1 _ _⟩
    · obtain rfl : k = t.elems.length := by omega
      have m1 : decide ((t.elems.length : Int) < (t.elems.length : Int)) = false := decide_eq_false (by omega)
      go_wp2_with fail
      go_loop [4] (fun i => ∃ k : Nat, k ≤ t.above.length ∧ i = .int .i64 k ∧ Hid (∀ j, (hj : j < t.above.length) → j < k → t.above[j].length ≤ 20)) (fun i => t.above.length - (intOf i).toNat)
      case atStart => exact ⟨0, by omega, rfl, Lib.hid (fun j _ hj => by omega)⟩
      case round =>
        obtain ⟨k, hk, rfl, HB⟩ := hrel
        by_cases hkl : k < t.above.length
        · obtain ⟨b, off, e, ha⟩ := HT.out.as_.at hkl
          obtain ⟨ra, rc, q, _, _, _⟩ := ha.at_ k hkl
          rw [e] at c2
          have n1 : (k : Int) < (t.above.length : Int) := by omega
          have n2 : (0 : Int) ≤ (k : Int) := by omega
          have hno : 20 < t.above[k].length → M.thinB t = false := fun hn => by
            cases hb : M.thinB t
            · rfl
            · have := (M.thin_parts.1 hb).2.2 _ (List.getElem_mem hkl); omega
          have hnx : t.above[k].length ≤ 20 → ∀ j, (hj : j < t.above.length) → j < k + 1 → t.above[j].length ≤ 20 := fun hn j hj hjk => by
            rcases Nat.lt_succ_iff_lt_or_eq.1 hjk with h | rfl
            · exact HB.out j hj h
            · exact hn
          obtain ⟨x, hx⟩ : ∃ x, t.above[k] = x := ⟨_, rfl⟩
          rw [hx] at q hno hnx
          have HNO := Lib.hid hno
          have HNX := Lib.hid hnx
          clear hx hno hnx ha e
          by_cases h30 : x.length ≤ 20
          · have d5 : decide ((20 : Int) < (x.length : Int)) = false := decide_eq_false (by omega)
            have HN := Lib.hid (HNX.out h30)
            go_wp2_with fail
            go_round
            case rel => exact ⟨k + 1, by omega, by go_num, HN⟩
            case measure => simp [intOf]; omega
          · have d5 : decide ((20 : Int) < (x.length : Int)) = true := decide_eq_true (by omega)
            have HN := Lib.hid (HNO.out (by omega))
            go_wp2_with fail
            go_ret
            exact ⟨ret_bool HN.out.symm, below1 _ _⟩
        · obtain rfl : k = t.above.length := by omega
          have m2 : decide ((t.above.length : Int) < (t.above.length : Int)) = false := decide_eq_false (by omega)
          have hyes : M.thinB t = true := M.thin_parts.2 ⟨⟨h1, h2, h3, h4⟩, fun s hs => by obtain ⟨j, hj, rfl⟩ := List.getElem_of_mem hs; exact HA.out j hj hj, fun l hl => by obtain ⟨j, hj, rfl⟩ := List.getElem_of_mem hl; exact HB.out j hj hj⟩
          have HY := Lib.hid hyes
          clear hyes
          go_wp2_with fail
          go_ret
          exact ⟨ret_bool HY.out.symm, below1 _ _⟩

theorem thinT_any (t : M.Tb) (p : Tp) (w : World) (ht : TbIn w t p) : Calls Try.prog 6 #[tbV t p] w fun e w' => e = .returned (.bool (M.thinB t)) ∧ Below w.heap.size w w' := by
  by_cases h : t.elems.length ≤ 20 ∧ t.above.length ≤ 20 ∧ t.wrong.length ≤ 20 ∧ t.name.size ≤ 30
  · exact thin_yes t p w ht h.1 h.2.1 h.2.2.1 h.2.2.2
  · have hn : M.thinB t = false := by
      cases hb : M.thinB t
      · rfl
      · exact absurd (M.thin_parts.1 hb).1 h
    rw [hn]
    exact thin_no t p w h
end Go.Proofs.Ytnhnjfoboepffaa

namespace Go.Proofs.Ytnhnjfoboepffaa
namespace M
def letB (c : UInt8) : Bool := decide (97 ≤ c.toNat) && decide (c.toNat ≤ 122)
def nameB (c : UInt8) : Bool := letB c || (decide (48 ≤ c.toNat) && decide (c.toNat ≤ 57))
def isNameB (s : List UInt8) : Bool := decide (1 ≤ s.length) && decide (s.length ≤ 12) && letB (s.headD 0) && s.all nameB
theorem size_list (s : ByteArray) : s.data.toList.length = s.size := Array.length_toList
theorem ba_ext {a b : ByteArray} (h : a.data.toList = b.data.toList) : a = b := by
  cases a with | mk a => cases b with | mk b =>
  have : a = b := Array.toList_inj.1 h
  rw [this]
/-- The kinds of bytes, by the numbers that are held against them. -/
theorem byte_cases (n : Nat) : (97 ≤ n ∧ n ≤ 122) ∨ (48 ≤ n ∧ n ≤ 57) ∨ n < 48 ∨ (57 < n ∧ n < 97) ∨ 122 < n := by omega
/-- The number of the first one of some texts that is a text, or how many they are. -/
def findN : List ByteArray → ByteArray → Nat
  | [], _ => 0
  | x :: l, s => if x = s then 0 else findN l s + 1
def findI (l : List ByteArray) (s : ByteArray) : Int := if findN l s < l.length then findN l s else -1
theorem findN_stop (l : List ByteArray) (s : ByteArray) : ∀ k, (hk : k < l.length) → (∀ j, (hj : j < l.length) → j < k → l[j] ≠ s) → l[k] = s → findN l s = k := by
  induction l with
  | nil => intro k hk; simp at hk
  | cons x l ih =>
    intro k hk hb hs
    unfold findN
    cases k with
    | zero =>
      have : x = s := hs
      rw [if_pos this]
    | succ k =>
      have h0 : x ≠ s := hb 0 (by simp) (by omega)
      rw [if_neg h0, ih k (by simpa using hk) (fun j hj hjk => hb (j + 1) (by simpa using hj) (by omega)) hs]
theorem findN_all (l : List ByteArray) (s : ByteArray) (h : ∀ j, (hj : j < l.length) → l[j] ≠ s) : findN l s = l.length := by
  induction l with
  | nil => rfl
  | cons x l ih =>
    unfold findN
    have h0 : x ≠ s := h 0 (by simp)
    rw [if_neg h0, ih (fun j hj => h (j + 1) (by simpa using hj)), List.length_cons]
theorem findI_stop (l : List ByteArray) (s : ByteArray) (k : Nat) (hk : k < l.length) (hb : ∀ j, (hj : j < l.length) → j < k → l[j] ≠ s) (hs : l[k] = s) : findI l s = k := by
  unfold findI; rw [findN_stop l s k hk hb hs, if_pos hk]
theorem findI_all (l : List ByteArray) (s : ByteArray) (h : ∀ j, (hj : j < l.length) → l[j] ≠ s) : findI l s = -1 := by
  unfold findI; rw [findN_all l s h, if_neg (by omega)]
theorem findN_le (l : List ByteArray) (s : ByteArray) : findN l s ≤ l.length := by
  induction l with
  | nil => exact Nat.le_refl _
  | cons x l ih =>
    unfold findN
    split
    · omega
    · rw [List.length_cons]; omega
theorem findN_at (l : List ByteArray) (s : ByteArray) (h : findN l s < l.length) : l[findN l s] = s ∧ ∀ j, (hj : j < l.length) → j < findN l s → l[j] ≠ s := by
  induction l with
  | nil => simp at h
  | cons x l ih =>
    by_cases hx : x = s
    · have e : findN (x :: l) s = 0 := by unfold findN; rw [if_pos hx]
      refine ⟨by simp only [e]; exact hx, fun j hj hjk => by omega⟩
    · have e : findN (x :: l) s = findN l s + 1 := by rw [findN, if_neg hx]
      have h' : findN l s < l.length := by rw [e, List.length_cons] at h; omega
      obtain ⟨h1, h2⟩ := ih h'
      refine ⟨by simp only [e, List.getElem_cons_succ]; exact h1, fun j hj hjk => ?_⟩
      cases j with
      | zero => exact hx
      | succ j => exact h2 j (by simpa using hj) (by omega)
theorem findN_mem (l : List ByteArray) (s : ByteArray) : findN l s < l.length ↔ s ∈ l := by
  constructor
  · intro h; obtain ⟨h1, _⟩ := findN_at l s h; rw [← h1]; exact List.getElem_mem _
  · intro h
    rcases Nat.lt_or_ge (findN l s) l.length with q | q
    · exact q
    · exfalso
      induction l with
      | nil => simp at h
      | cons x l ih =>
        by_cases hx : x = s
        · have e : findN (x :: l) s = 0 := by unfold findN; rw [if_pos hx]
          rw [e, List.length_cons] at q; omega
        · have e : findN (x :: l) s = findN l s + 1 := by rw [findN, if_neg hx]
          rw [e, List.length_cons] at q
          rcases List.mem_cons.1 h with h | h
          · exact hx h.symm
          · exact ih h (by omega)
theorem findI_neg (l : List ByteArray) (s : ByteArray) : findI l s < 0 ↔ s ∉ l := by
  rw [← findN_mem]
  unfold findI
  split
  · rename_i h; constructor
    · intro q; omega
    · intro q; exact absurd h q
  · rename_i h; exact ⟨fun _ => h, fun _ => by decide⟩
/-- The words that are no names of tables. -/
def words : List ByteArray := [⟨#[102, 108, 97, 103]⟩, ⟨#[109, 97, 120]⟩, ⟨#[115, 101, 116]⟩, ⟨#[111, 110, 99, 101]⟩, ⟨#[109, 97, 112]⟩, ⟨#[112, 97, 105, 114]⟩]
def isTabB (s : ByteArray) : Bool := isNameB s.data.toList && decide (findI words s < 0)
/-- Numbers that strictly ascend, and are some of the first n ones. -/
def asc (n : Nat) (l : List Int) : Prop := ∀ k, (h : k < l.length) → 0 ≤ l[k] ∧ l[k] < n ∧ (0 < k → l[k - 1]'(by omega) < l[k])
/-- Whether a table has its form. -/
structure form (t : Tb) : Prop where
  name : isTabB t.name = true
  one : 1 ≤ t.elems.length
  twelve : t.elems.length ≤ 12
  above : t.above.length = t.elems.length
  wrong : t.wrong.length = t.elems.length
  names : ∀ i, (h : i < t.elems.length) → isNameB t.elems[i].data.toList = true
  differ : ∀ i j, (hi : i < t.elems.length) → (hj : j < t.elems.length) → i < j → t.elems[i] ≠ t.elems[j]
  rows : ∀ i, (h : i < t.above.length) → asc t.elems.length t.above[i]
end M
end Go.Proofs.Ytnhnjfoboepffaa

namespace Go.Proofs.Ytnhnjfoboepffaa
open Go.RowKit

namespace M
/-- Whether a rune can be in no name. -/
def badR (x : Nat) : Bool := !(decide (97 ≤ x) && decide (x ≤ 122)) && (decide (x < 48) || decide (57 < x))
theorem badR_byte (c : UInt8) : badR c.toNat = !nameB c := by
  unfold badR nameB letB
  rw [Bool.eq_iff_iff]
  simp only [Bool.and_eq_true, Bool.or_eq_true, Bool.not_eq_true', decide_eq_true_eq, Bool.and_eq_false_iff, Bool.or_eq_false_iff, decide_eq_false_iff_not]
  omega
theorem badR_high (x : Nat) (h : 128 ≤ x) : badR x = true := by
  unfold badR
  simp only [Bool.and_eq_true, Bool.or_eq_true, Bool.not_eq_true', decide_eq_true_eq, Bool.and_eq_false_iff, decide_eq_false_iff_not]
  omega
/-- Where a byte stands first that can be in no name. -/
def endN (s : List UInt8) : Nat := s.findIdx fun c => !nameB c
theorem name_low (c : UInt8) (h : nameB c = true) : c.toNat < 128 := by
  unfold nameB letB at h
  simp only [Bool.and_eq_true, Bool.or_eq_true, decide_eq_true_eq] at h
  omega
theorem idx_all (s : ByteArray) (h : ∀ j, (hj : j < s.size) → nameB s[j] = true) : ∀ f pos, Lib.idxFuncFrom badR true s f pos = -1 := by
  intro f
  induction f with
  | zero => intro pos; rfl
  | succ f ih =>
    intro pos
    unfold Lib.idxFuncFrom
    by_cases hp : pos < s.size
    · rw [if_pos hp, decode_ascii s pos hp (name_low _ (h pos hp)), badR_byte, h pos hp, if_neg (by decide)]
      exact ih _
    · rw [if_neg hp]
theorem idx_some (s : ByteArray) (k : Nat) (hk : k < s.size) (hb : nameB s[k] = false) (h : ∀ j, (hj : j < s.size) → j < k → nameB s[j] = true) : ∀ f pos, pos ≤ k → k < pos + f → Lib.idxFuncFrom badR true s f pos = k := by
  intro f
  induction f with
  | zero => intro pos h1 h2; omega
  | succ f ih =>
    intro pos h1 h2
    unfold Lib.idxFuncFrom
    have hp : pos < s.size := by omega
    rw [if_pos hp]
    by_cases he : pos = k
    · subst he
      have : badR (Utf8.decode s pos).1 = true := by
        by_cases ha : (s[pos]'hp).toNat < 128
        · rw [decode_ascii s pos hp ha, badR_byte, hb]; rfl
        · exact badR_high _ (decode_high s pos hp (by omega)).1
      rw [if_pos this]
    · have hn := h pos hp (by omega)
      rw [decode_ascii s pos hp (name_low _ hn), badR_byte, hn, if_neg (by decide)]
      exact ih _ (by omega) (by omega)
theorem idx_end (s : ByteArray) : (Lib.idxFunc badR true s = -1 ∧ endN s.data.toList = s.size ∧ s.data.toList.all nameB = true) ∨ (Lib.idxFunc badR true s = endN s.data.toList ∧ endN s.data.toList < s.size ∧ s.data.toList.all nameB = false) := by
  by_cases h : endN s.data.toList < s.data.toList.length
  · right
    have hl := size_list s
    have h1 : nameB (s.data.toList[endN s.data.toList]'h) = false := by
      have := List.findIdx_getElem (xs := s.data.toList) (p := fun c => !nameB c) (w := h)
      rw [Bool.not_eq_true'] at this; exact this
    refine ⟨idx_some s _ (by omega) h1 (fun j hj hjk => ?_) s.size 0 (by omega) (by omega), by omega, ?_⟩
    · have := List.not_of_lt_findIdx (xs := s.data.toList) (p := fun c => !nameB c) hjk
      have h2 : nameB (s.data.toList[j]'(by omega)) = true := by simpa using this
      exact h2
    · rw [List.all_eq_false]
      exact ⟨_, List.getElem_mem h, by rw [h1]; decide⟩
  · left
    have hl := size_list s
    have he : endN s.data.toList = s.data.toList.length := by
      have : endN s.data.toList ≤ s.data.toList.length := List.findIdx_le_length
      omega
    have hall : ∀ c, c ∈ s.data.toList → nameB c = true := fun c hc => by
      have := List.findIdx_eq_length.1 he c hc
      simpa using this
    refine ⟨idx_all s (fun j hj => hall _ ?_) _ _, by omega, List.all_eq_true.2 hall⟩
    have : s.data.toList[j]'(by omega) = s[j] := rfl
    rw [← this]; exact List.getElem_mem _
end M

set_option maxHeartbeats 1000000 in
set_option maxRecDepth 100000 in
theorem isLetter_any (x : Int) (w : World) : Calls Try.prog 96 #[.int .i32 x] w fun e w' => e = .returned (.bool (decide (97 ≤ x) && decide (x ≤ 122))) ∧ w = w' := by
  cases h : decide (97 ≤ x) with
  | true =>
    go_enter Try.func96, Try.ntmps96
    go_wp2_with fail
    go_ret
    exact ⟨rfl, rfl⟩
  | false =>
    go_enter Try.func96, Try.ntmps96
    go_wp2_with fail
    go_ret
    exact ⟨rfl, rfl⟩

set_option maxHeartbeats 1000000 in
set_option maxRecDepth 100000 in
theorem nameEnd1_any (x : Nat) (w : World) : Calls Try.prog 107 #[.int .i32 x] w fun e w' => e = .returned (.bool (M.badR x)) ∧ w = w' := by
  have hcall := isLetter_any x w
  by_cases hl : 97 ≤ x ∧ x ≤ 122
  · have e1 : (decide ((97 : Int) ≤ (x : Int)) && decide ((x : Int) ≤ 122)) = true := by simp only [Bool.and_eq_true, decide_eq_true_eq]; omega
    rw [e1] at hcall
    have HC := Lib.hid hcall
    have hr : M.badR x = false := by unfold M.badR; rw [decide_eq_true hl.1, decide_eq_true hl.2]; rfl
    have HR := Lib.hid hr
    clear hcall hr e1 hl
    go_enter Try.func107, Try.ntmps107
    go_wp2_with fail
    refine HC.out.mono ?_
    rintro e w1 ⟨rfl, rfl⟩
    go_wp2_with fail
    go_ret
    exact ⟨ret_bool HR.out.symm, rfl⟩
  · have e1 : (decide ((97 : Int) ≤ (x : Int)) && decide ((x : Int) ≤ 122)) = false := by
      cases hb : (decide ((97 : Int) ≤ (x : Int)) && decide ((x : Int) ≤ 122))
      · rfl
      · simp only [Bool.and_eq_true, decide_eq_true_eq] at hb; omega
    have e2 : (decide (97 ≤ x) && decide (x ≤ 122)) = false := by
      cases hb : (decide (97 ≤ x) && decide (x ≤ 122))
      · rfl
      · simp only [Bool.and_eq_true, decide_eq_true_eq] at hb; omega
    rw [e1] at hcall
    have HC := Lib.hid hcall
    by_cases h1 : x < 48
    · have d1 : decide ((x : Int) < 48) = true := decide_eq_true (by omega)
      have hr : M.badR x = true := by unfold M.badR; rw [e2, decide_eq_true h1]; rfl
      have HR := Lib.hid hr
      clear hcall hr e1 e2 hl h1
      go_enter Try.func107, Try.ntmps107
      go_wp2_with fail
      refine HC.out.mono ?_
      rintro e w1 ⟨rfl, rfl⟩
      go_wp2_with fail
      go_ret
      exact ⟨ret_bool HR.out.symm, rfl⟩
    · have d1 : decide ((x : Int) < 48) = false := decide_eq_false (by omega)
      have hr : M.badR x = decide ((57 : Int) < (x : Int)) := by
        unfold M.badR; rw [e2, decide_eq_false h1, Bool.eq_iff_iff]
        simp only [Bool.not_false, Bool.false_or, Bool.true_and, decide_eq_true_eq]
        omega
      have HR := Lib.hid hr
      clear hcall hr e1 e2 hl h1
      go_enter Try.func107, Try.ntmps107
      go_wp2_with fail
      refine HC.out.mono ?_
      rintro e w1 ⟨rfl, rfl⟩
      go_wp2_with fail
      go_ret
      exact ⟨ret_bool HR.out.symm, rfl⟩

theorem enters_nameEnd1 : ∀ args w, (callFunc 107 args).run Try.prog w = .ok (.enter 107 args) w := enters_of Try.func107 (by kernel_rfl) rfl

set_option maxHeartbeats 1000000 in
set_option maxRecDepth 100000 in
theorem nameEnd_any (s : ByteArray) (w : World) : Calls Try.prog 97 #[.string s] w fun e w' => e = .returned (.int .i64 (M.endN s.data.toList)) ∧ Below w.heap.size w w' := by
  have cI := Try.strings_IndexFunc_runes 107 #[] enters_nameEnd1 M.badR s w (fun W x _ _ => (nameEnd1_any x W).mono fun e w' ⟨he, hw⟩ => ⟨he, 0, hw.symm⟩)
  rcases M.idx_end s with ⟨h1, h2, _⟩ | ⟨h1, h2, _⟩
  · rw [h1] at cI
    have HC := Lib.hid cI
    have HR := Lib.hid h2
    clear cI h1 h2
    go_enter Try.func97, Try.ntmps97
    go_wp2_with fail
    refine HC.out.mono ?_
    rintro e w1 ⟨rfl, hB⟩
    go_wp2_with fail
    go_ret
    exact ⟨ret_int (by rw [HR.out]), hB⟩
  · rw [h1] at cI
    have HC := Lib.hid cI
    have d1 : decide (((M.endN s.data.toList : Nat) : Int) < 0) = false := decide_eq_false (by omega)
    clear cI h1 h2
    go_enter Try.func97, Try.ntmps97
    go_wp2_with fail
    refine HC.out.mono ?_
    rintro e w1 ⟨rfl, hB⟩
    go_wp2_with fail
    go_ret
    exact ⟨rfl, hB⟩
end Go.Proofs.Ytnhnjfoboepffaa
