/- Texts of one's own, joined: OrdDb, BasL. -/
import Derived.Test.YtnhnjfoboepffaaGreatGr27
import Derived.Test.YtnhnjfoboepffaaGreatGr37
import Derived.Test.YtnhnjfoboepffaaGreatGr41
import Derived.Test.YtnhnjfoboepffaaGreatGr11
import Derived.Test.YtnhnjfoboepffaaGreatGr9
import Derived.Test.YtnhnjfoboepffaaGreatGr2
namespace Go.Proofs.YtnhnjfoboepffaaGreat
namespace M
/-- An element that is the join of no two other ones. -/
structure isPr (t : Tb) (j : Nat) : Prop where
  lt : j < t.elems.length
  pos : j ≠ 0
  irr : ∀ a b, a < t.elems.length → b < t.elems.length → jnD t a b = j → a = j ∨ b = j
theorem newJ_iff {t : Tb} {x : Nat × Nat} : newJ t x = true ↔ jnD t x.1 x.2 ≠ x.1 ∧ jnD t x.1 x.2 ≠ x.2 := by unfold newJ; simp
theorem prm_iff {t : Tb} (hg : good t) (j : Nat) : (prm t).testBit j = true ↔ isPr t j := by
  unfold prm
  rw [prmM_bit hg.form]
  constructor
  · rintro ⟨h1, h2, h3⟩
    refine ⟨leB_lt hg.form hg.form.one h1, h2, fun a b ha hb hj => ?_⟩
    rcases Nat.lt_trichotomy a b with q | rfl | q
    · by_cases e1 : a = j
      · exact Or.inl e1
      · by_cases e2 : b = j
        · exact Or.inr e2
        · exact absurd hj (h3 (a, b) (mem_prs.2 ⟨q, hb⟩) (newJ_iff.2 ⟨by show jnD t a b ≠ a; rw [hj]; exact fun e => e1 e.symm, by show jnD t a b ≠ b; rw [hj]; exact fun e => e2 e.symm⟩))
    · rw [jnD_same hg ha] at hj; exact Or.inl hj
    · rw [jnD_comm] at hj
      by_cases e1 : a = j
      · exact Or.inl e1
      · by_cases e2 : b = j
        · exact Or.inr e2
        · exact absurd hj (h3 (b, a) (mem_prs.2 ⟨q, ha⟩) (newJ_iff.2 ⟨by show jnD t b a ≠ b; rw [hj]; exact fun e => e2 e.symm, by show jnD t b a ≠ a; rw [hj]; exact fun e => e1 e.symm⟩))
  · intro h
    refine ⟨hg.nb.base j h.lt, h.pos, fun x hx hn hj => ?_⟩
    obtain ⟨h1, h2⟩ := mem_prs.1 hx
    obtain ⟨h3, h4⟩ := newJ_iff.1 hn
    rcases h.irr x.1 x.2 (by omega) h2 hj with e | e
    · exact h3 (hj.trans e.symm)
    · exact h4 (hj.trans e.symm)
/-- A greatest one of the primes below an element. -/
structure isPt (t : Tb) (a j : Nat) : Prop where
  pr : isPr t j
  le : leB t j a = true
  top : ∀ p, isPr t p → leB t p a = true → leB t j p = true → p = j
theorem prt_iff {t : Tb} (hg : good t) (a j : Nat) : (prt t a).testBit j = true ↔ isPt t a j := by
  rw [prt_bit, blw_bit hg.form, prm_iff hg]
  constructor
  · rintro ⟨⟨h1, h2⟩, h3⟩
    refine ⟨h1, h2, fun p q1 q2 q3 => ?_⟩
    have h4 : (know t j &&& blw t a).testBit p = true := by
      rw [Nat.testBit_and, Bool.and_eq_true]
      exact ⟨q3, (blw_bit hg.form a p).2 ⟨(prm_iff hg p).2 q1, q2⟩⟩
    rw [h3, Nat.testBit_two_pow, decide_eq_true_eq] at h4
    exact h4.symm
  · rintro ⟨h1, h2, h3⟩
    refine ⟨⟨h1, h2⟩, Nat.eq_of_testBit_eq fun i => ?_⟩
    rw [Nat.testBit_and, Nat.testBit_two_pow, Bool.eq_iff_iff, Bool.and_eq_true, decide_eq_true_eq, blw_bit hg.form, prm_iff hg]
    constructor
    · rintro ⟨q1, q2, q3⟩
      exact (h3 i q2 q3 q1).symm
    · rintro rfl
      exact ⟨leB_refl hg.form h1.lt, h1, h2⟩
theorem le_stp {t : Tb} (hf : form t) {a b : Nat} (ha : a < t.elems.length) (hl : leB t a b = true) (hn : b ≠ a) : stB t a b = true := by
  have h := leB_or hf ha (b := b)
  rw [hl, decide_eq_false (fun e => hn e.symm), Bool.false_or] at h
  exact h.symm
theorem pt_over {t : Tb} (hg : good t) {a : Nat} : ∀ (m p : Nat), overs t p ≤ m → isPr t p → leB t p a = true → ∃ j, isPt t a j ∧ leB t p j = true := by
  intro m
  induction m with
  | zero =>
    intro p hm hp hl
    refine ⟨p, ⟨hp, hl, fun q h1 h2 h3 => ?_⟩, leB_refl hg.form hp.lt⟩
    by_cases e : q = p
    · exact e
    · have := overs_lt hg.form hg.nb.cyc hp.lt (le_stp hg.form hp.lt h3 e)
      omega
  | succ m ih =>
    intro p hm hp hl
    by_cases hx : ∃ q, isPr t q ∧ leB t q a = true ∧ leB t p q = true ∧ q ≠ p
    · obtain ⟨q, h1, h2, h3, h4⟩ := hx
      have := overs_lt hg.form hg.nb.cyc hp.lt (le_stp hg.form hp.lt h3 h4)
      obtain ⟨j, q1, q2⟩ := ih q (by omega) h1 h2
      exact ⟨j, q1, leB_trans hg.form hp.lt h3 q2⟩
    · refine ⟨p, ⟨hp, hl, fun q h1 h2 h3 => ?_⟩, leB_refl hg.form hp.lt⟩
      by_cases e : q = p
      · exact e
      · exact absurd ⟨q, h1, h2, h3, e⟩ hx
/-- An element is below whatever all primes below it are below. -/
theorem lub_pr {t : Tb} (hg : good t) {d : Nat} (hd : d < t.elems.length) : ∀ (m a : Nat), a < t.elems.length → t.elems.length ≤ overs t a + m → (∀ p, isPr t p → leB t p a = true → leB t p d = true) → leB t a d = true := by
  intro m
  induction m with
  | zero =>
    intro a ha hm _
    exfalso
    have h2 : overs t a < ((List.range t.elems.length).filter fun _ => true).length :=
      filter_lt (fun _ _ _ => rfl) (List.mem_range.2 ha) (hg.nb.cyc a ha) rfl
    rw [show ((List.range t.elems.length).filter fun _ => true) = List.range t.elems.length from List.filter_eq_self.2 fun _ _ => rfl, List.length_range] at h2
    omega
  | succ m ih =>
    intro a ha hm hp
    by_cases e0 : a = 0
    · subst e0; exact hg.nb.base d hd
    · by_cases hpr : isPr t a
      · exact hp a hpr (leB_refl hg.form ha)
      · have : ∃ b c, b < t.elems.length ∧ c < t.elems.length ∧ jnD t b c = a ∧ b ≠ a ∧ c ≠ a := by
          apply Classical.byContradiction
          intro hn
          refine hpr ⟨ha, e0, fun b c hb hc hj => ?_⟩
          by_cases e1 : b = a
          · exact Or.inl e1
          · by_cases e2 : c = a
            · exact Or.inr e2
            · exact absurd ⟨b, c, hb, hc, hj, e1, e2⟩ hn
        obtain ⟨b, c, hb, hc, hj, e1, e2⟩ := this
        have hJ := jnD_is hg hb hc
        rw [hj] at hJ
        have o1 := overs_lt hg.form hg.nb.cyc hb (le_stp hg.form hb hJ.l (fun e => e1 e.symm))
        have o2 := overs_lt hg.form hg.nb.cyc hc (le_stp hg.form hc hJ.r (fun e => e2 e.symm))
        exact hJ.least d (ih b hb (by omega) fun p q1 q2 => hp p q1 (leB_trans hg.form q1.lt q2 hJ.l)) (ih c hc (by omega) fun p q1 q2 => hp p q1 (leB_trans hg.form q1.lt q2 hJ.r))
/-- The parts of an element, ascending; elements joined one after the other. -/
def prtl (t : Tb) (a : Nat) : List Int := listN (prt t a) 12
def jf (t : Tb) (l : List Int) : Nat := l.foldl (fun j x => jnD t j x.toNat) 0
theorem jf_snoc (t : Tb) (l : List Int) (x : Int) : jf t (l ++ [x]) = jnD t (jf t l) x.toNat := by unfold jf; rw [List.foldl_append]; rfl
theorem jf_all {t : Tb} (hg : good t) : ∀ (l : List Int) (j a : Nat), a < t.elems.length → j < t.elems.length → leB t j a = true → (∀ x, x ∈ l → x.toNat < t.elems.length ∧ leB t x.toNat a = true) →
    l.foldl (fun j x => jnD t j x.toNat) j < t.elems.length ∧ leB t (l.foldl (fun j x => jnD t j x.toNat) j) a = true ∧ leB t j (l.foldl (fun j x => jnD t j x.toNat) j) = true ∧ ∀ x, x ∈ l → leB t x.toNat (l.foldl (fun j x => jnD t j x.toNat) j) = true := by
  intro l
  induction l with
  | nil => intro j a _ hj hl _; exact ⟨hj, hl, leB_refl hg.form hj, fun x hx => by simp at hx⟩
  | cons y l ih =>
    intro j a ha hj hl h
    obtain ⟨y1, y2⟩ := h y List.mem_cons_self
    have hJ := jnD_is hg hj y1
    obtain ⟨r1, r2, r3, r4⟩ := ih (jnD t j y.toNat) a ha hJ.lt (hJ.least a hl y2) fun x hx => h x (List.mem_cons_of_mem _ hx)
    refine ⟨r1, r2, leB_trans hg.form hj hJ.l r3, fun x hx => ?_⟩
    rcases List.mem_cons.1 hx with rfl | hx
    · exact leB_trans hg.form y1 hJ.r r3
    · exact r4 x hx
theorem prtl_mem {t : Tb} (hg : good t) {a : Nat} {x : Int} (h : x ∈ prtl t a) : 0 ≤ x ∧ isPt t a x.toNat := by
  obtain ⟨j, rfl, h1, h2⟩ := (listN_mem _ _ _).1 h
  exact ⟨by omega, by rw [Int.toNat_natCast]; exact (prt_iff hg a j).1 h2⟩
theorem prtl_has {t : Tb} (hg : good t) {a j : Nat} (h : isPt t a j) : (j : Int) ∈ prtl t a :=
  (listN_mem _ _ _).2 ⟨j, rfl, by have := h.pr.lt; have := hg.form.twelve; omega, (prt_iff hg a j).2 h⟩
/-- Each element is the join of its parts. -/
theorem prtl_join {t : Tb} (hg : good t) {a : Nat} (ha : a < t.elems.length) : jf t (prtl t a) = a := by
  have h0 : 0 < t.elems.length := hg.form.one
  obtain ⟨r1, r2, _, r4⟩ := jf_all hg (prtl t a) 0 a ha h0 (hg.nb.base a ha) fun x hx => ⟨(prtl_mem hg hx).2.pr.lt, (prtl_mem hg hx).2.le⟩
  refine anti hg r1 r2 ?_
  refine lub_pr hg r1 t.elems.length a ha (by omega) fun p hp hl => ?_
  obtain ⟨j, h1, h2⟩ := pt_over hg (overs t p) p (Nat.le_refl _) hp hl
  have := r4 _ (prtl_has hg h1)
  rw [Int.toNat_natCast] at this
  exact leB_trans hg.form hp.lt h2 this
theorem jf_lt {t : Tb} (hg : good t) (l : List Int) (hl : ∀ x, x ∈ l → x.toNat < t.elems.length) : jf t l < t.elems.length := by
  suffices ∀ (l : List Int) (j : Nat), j < t.elems.length → (∀ x, x ∈ l → x.toNat < t.elems.length) → l.foldl (fun j x => jnD t j x.toNat) j < t.elems.length from this l 0 hg.form.one hl
  intro l
  induction l with
  | nil => intro j hj _; exact hj
  | cons y l ih => intro j hj h; exact ih _ (jnD_is hg hj (h y List.mem_cons_self)).lt fun x hx => h x (List.mem_cons_of_mem _ hx)
theorem listN_pow : ∀ p : Nat, p < 12 → listN (2 ^ p) 12 = [(p : Int)] := by
  intro p hp
  match p, hp with
  | 0, _ => rfl
  | 1, _ => rfl
  | 2, _ => rfl
  | 3, _ => rfl
  | 4, _ => rfl
  | 5, _ => rfl
  | 6, _ => rfl
  | 7, _ => rfl
  | 8, _ => rfl
  | 9, _ => rfl
  | 10, _ => rfl
  | 11, _ => rfl
  | p + 12, hp => omega
/-- A prime is its own only part. -/
theorem prtl_own {t : Tb} (hg : good t) {p : Nat} (hp : isPr t p) : prtl t p = [(p : Int)] := by
  have h12 := hg.form.twelve
  have hlt := hp.lt
  unfold prtl
  rw [show prt t p = 2 ^ p from Nat.eq_of_testBit_eq fun i => by
    rw [Nat.testBit_two_pow, Bool.eq_iff_iff, prt_iff hg, decide_eq_true_eq]
    constructor
    · intro h; exact h.top p hp (leB_refl hg.form hlt) h.le
    · rintro rfl
      exact ⟨hp, leB_refl hg.form hlt, fun q h1 h2 h3 => anti hg h1.lt h2 h3⟩, listN_pow p (by omega)]
/-- Of an element below another one each part is below some part of that one. -/
theorem prtl_over {t : Tb} (hg : good t) {a b : Nat} (_ha : a < t.elems.length) (hl : leB t a b = true) {x : Int} (hx : x ∈ prtl t a) : ((prtl t b).any fun y => leB t x.toNat y.toNat) = true := by
  have h := (prtl_mem hg hx).2
  obtain ⟨j, h1, h2⟩ := pt_over hg (overs t x.toNat) x.toNat (Nat.le_refl _) h.pr (leB_trans hg.form h.pr.lt h.le hl)
  exact List.any_eq_true.2 ⟨j, prtl_has hg h1, by rw [Int.toNat_natCast]; exact h2⟩
theorem prml_mem {t : Tb} (hg : good t) {x : Int} (h : x ∈ listN (prm t) 12) : 0 ≤ x ∧ isPr t x.toNat := by
  obtain ⟨j, rfl, h1, h2⟩ := (listN_mem _ _ _).1 h
  exact ⟨by omega, by rw [Int.toNat_natCast]; exact (prm_iff hg j).1 h2⟩
end M
end Go.Proofs.YtnhnjfoboepffaaGreat

namespace Go.Proofs.YtnhnjfoboepffaaGreat
open Go.RowKit

/-- Numbers as they lie in a block that may be written. -/
def NmB (w : World) (B n : Nat) (f : Nat → Nat) : Prop := ∀ i, i < n → w.cell? ⟨B, i, none⟩ = some (.int .i64 (f i : Nat)) ∧ w.frozen? ⟨B, i, none⟩ = false
theorem NmB.below {w w' : World} {B n : Nat} {f : Nat → Nat} (h : NmB w B n f) (base : Nat) (hb : B < base) (hB : Below base w w') : NmB w' B n f :=
  fun i hi => ⟨(hB.cell (p := ⟨B, i, none⟩) hb).trans (h i hi).1, (hB.frozen (p := ⟨B, i, none⟩) hb).trans (h i hi).2⟩
theorem NmB.set {w : World} {B n : Nat} {f : Nat → Nat} (h : NmB w B n f) (y v : Nat) : NmB (w.setCell ⟨B, y, none⟩ (.int .i64 (v : Nat))) B n (fun i => if i = y then v else f i) := by
  intro i hi
  refine ⟨?_, by rw [World.frozen?_setCell]; exact (h i hi).2⟩
  by_cases e : i = y
  · subst e
    rw [World.cell?_setCell_same' _ _ _ (by rw [(h i hi).1]; rfl)]
    simp only [if_true]
  · rw [World.cell?_setCell_other _ _ _ _ (by intro q; have := congrArg Addr.off q; simp at this; omega)]
    simp only [if_neg e]
    exact (h i hi).1
abbrev nmsA (n : Nat) : Array Value := madeCells #[.int .i64 0] n
theorem nmsA_at (n i : Nat) (h : i < n) : (nmsA n)[i]? = some (.int .i64 0) := by
  unfold nmsA madeCells
  have h2 : i < ((Array.range n).map fun x => (#[Value.int .i64 0] : Array Value)[x % 1]!).size := by simp; omega
  show ((Array.range n).map fun x => (#[Value.int .i64 0] : Array Value)[x % 1]!)[i]? = _
  rw [Array.getElem?_eq_getElem h2]
  simp [Nat.mod_one]
theorem make_ints (n : Nat) (hn : n ≤ 1000000) (W : World) : (Instr.makeSlice 35 (.int .i64 n) (.int .i64 n)).run Tryz.prog W = .ok (.slice (some ⟨W.heap.size, 0, none⟩) n n) (W.alloc (.cells (nmsA n) 3)) := by
  obtain ⟨i0, hi, hz0, hz1, hz2⟩ := info_parts intInfo
  have h := run_make (P := Tryz.prog) W 35 3 i0 (.int .i64 0) Tryz.underlying35 hi hz0 .i64 .i64 (n : Int) (n : Int) (by omega) (Int.le_refl _) (by rw [hz2]; omega) (by omega)
  rw [hz1, Int.toNat_natCast, Nat.mul_one] at h
  exact h
theorem nmB_new (W : World) (n : Nat) : NmB (W.alloc (.cells (nmsA n) 3)) W.heap.size n (fun _ => 0) := by
  intro i hi
  have h := box_new W (nmsA n) 3
  refine ⟨?_, Lib.frozen_of_heap h i⟩
  rw [Lib.cell_of_heap h]; exact nmsA_at n i hi
/-- A byte that comes in. -/
abbrev bytV (x : Fin 256) : Value := .int .u8 ((x.val : Nat) : Int)
end Go.Proofs.YtnhnjfoboepffaaGreat
