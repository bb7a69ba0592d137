/- Texts of one's own, joined: OrdL, OrdN. -/
import Derived.Test.YthacjdlohmkpoaaGr6
import Derived.Test.YthacjdlohmkpoaaGr7
namespace Go.Proofs.Ythacjdlohmkpoaa
namespace M
/-- One step up, or none. -/
def stp (t : Tb) (a b : Nat) : Prop := b = a ∨ (b : Int) ∈ t.above.getD a []
/-- Steps up, as many as one likes. -/
inductive Ways (t : Tb) : Nat → Nat → Prop
  | one {a b : Nat} : stp t a b → Ways t a b
  | more {a v b : Nat} : Ways t a v → stp t v b → Ways t a b
theorem Ways.trans {t : Tb} {a v b : Nat} (h1 : Ways t a v) (h2 : Ways t v b) : Ways t a b := by
  induction h2 with
  | one h => exact .more h1 h
  | more _ h ih => exact .more ih h
theorem Ways.refl (t : Tb) (a : Nat) : Ways t a a := .one (Or.inl rfl)
theorem stp_lt {t : Tb} (hf : form t) {a b : Nat} (ha : a < t.elems.length) (h : stp t a b) : b < t.elems.length := by
  rcases h with rfl | h
  · exact ha
  · have ha' : a < t.above.length := by rw [hf.above]; exact ha
    rw [getD_in _ _ _ ha'] at h
    obtain ⟨j, hj, e⟩ := List.getElem_of_mem h
    have := (hf.rows a ha' j hj).2.1
    omega
theorem Ways.lt {t : Tb} (hf : form t) {a b : Nat} (ha : a < t.elems.length) (h : Ways t a b) : b < t.elems.length := by
  induction h with
  | one h => exact stp_lt hf ha h
  | more _ h ih => exact stp_lt hf ih h
theorem base_bit {t : Tb} (hf : form t) (a b : Nat) (ha : a < t.elems.length) : (base t a).testBit b = true ↔ stp t a b := by
  have ha' : a < t.above.length := by rw [hf.above]; exact ha
  unfold base stp
  rw [Nat.testBit_or, Bool.or_eq_true, ofN_bit _ (fun x hx => by simp at hx; omega), ofN_bit _ (fun x hx => by
    rw [getD_in _ _ _ ha'] at hx
    obtain ⟨j, hj, rfl⟩ := List.getElem_of_mem hx
    exact (hf.rows a ha' j hj).1)]
  simp only [List.mem_singleton]
  constructor
  · rintro (h | h)
    · exact Or.inl (by omega)
    · exact Or.inr h
  · rintro (h | h)
    · exact Or.inl (by omega)
    · exact Or.inr h
theorem inner_bit (r : Nat → Nat) (v n a b : Nat) (ha : a < n) : (inner r v n a).testBit b = true ↔ (r a).testBit b = true ∨ ((r a).testBit v = true ∧ (r v).testBit b = true) := by
  unfold inner
  cases hb : (r a).testBit v with
  | true =>
    rw [if_pos ⟨ha, rfl⟩, Nat.testBit_or, Bool.or_eq_true]
    simp
  | false =>
    rw [if_neg (fun q => by cases q.2)]
    simp
theorem war_sound {t : Tb} (f : Nat → Nat) (n : Nat) (hf : ∀ a b, a < n → (f a).testBit b = true → Ways t a b) : ∀ k, k ≤ n → ∀ a b, a < n → (war f n k a).testBit b = true → Ways t a b := by
  intro k
  induction k with
  | zero => exact fun _ => hf
  | succ k ih =>
    intro hk a b ha h
    rcases (inner_bit _ k n a b ha).1 h with h | ⟨h1, h2⟩
    · exact ih (by omega) a b ha h
    · exact (ih (by omega) a k ha h1).trans (ih (by omega) k b (by omega) h2)
theorem war_keeps (f : Nat → Nat) (n : Nat) : ∀ k, ∀ a b, a < n → (f a).testBit b = true → (war f n k a).testBit b = true := by
  intro k
  induction k with
  | zero => exact fun _ _ _ h => h
  | succ k ih => exact fun a b ha h => (inner_bit _ k n a b ha).2 (Or.inl (ih a b ha h))
theorem war_trans (f : Nat → Nat) (n : Nat) : ∀ k, k ≤ n → ∀ v, v < k → ∀ a b, a < n → (war f n k a).testBit v = true → (war f n k v).testBit b = true → (war f n k a).testBit b = true := by
  intro k
  induction k with
  | zero => intro _ v hv; omega
  | succ k ih =>
    intro hk v hv a b ha h1 h2
    have hkn : k < n := by omega
    have hvn : v < n := by omega
    refine (inner_bit _ k n a b ha).2 ?_
    have q1 := (inner_bit _ k n a v ha).1 h1
    have q2 := (inner_bit _ k n v b hvn).1 h2
    have T := ih (by omega)
    rcases Nat.lt_succ_iff_lt_or_eq.1 hv with hv | rfl
    · rcases q1 with q1 | ⟨q1, q1'⟩
      · rcases q2 with q2 | ⟨q2, q2'⟩
        · exact Or.inl (T v hv a b ha q1 q2)
        · exact Or.inr ⟨T v hv a k ha q1 q2, q2'⟩
      · rcases q2 with q2 | ⟨q2, q2'⟩
        · exact Or.inr ⟨q1, T v hv k b hkn q1' q2⟩
        · exact Or.inr ⟨q1, q2'⟩
    · have p1 : (war f n v a).testBit v = true := by rcases q1 with q | ⟨q, _⟩ <;> exact q
      have p2 : (war f n v v).testBit b = true := by rcases q2 with q | ⟨_, q⟩ <;> exact q
      exact Or.inr ⟨p1, p2⟩
/-- The bits of a known table tell what can be reached. -/
theorem know_bit {t : Tb} (hf : form t) (a b : Nat) (ha : a < t.elems.length) : (know t a).testBit b = true ↔ Ways t a b := by
  have hb : ∀ a b, a < t.elems.length → ((upto (base t) t.elems.length a).testBit b = true ↔ stp t a b) := fun a b ha => by
    unfold upto
    rw [if_pos ha]
    exact base_bit hf a b ha
  constructor
  · exact war_sound _ _ (fun a b ha h => .one ((hb a b ha).1 h)) _ (Nat.le_refl _) a b ha
  · intro h
    induction h with
    | one h => exact war_keeps _ _ _ _ _ ha ((hb _ _ ha).2 h)
    | more h1 h2 ih =>
      have hv := Ways.lt hf ha h1
      exact war_trans _ _ _ (Nat.le_refl _) _ hv _ _ ha ih (war_keeps _ _ _ _ _ hv ((hb _ _ hv).2 h2))
theorem know_lt {t : Tb} (hf : form t) (a : Nat) : know t a < 4096 := war_lt (upto_lt _ fun a ha => base_lt hf a (by rw [hf.above]; exact ha)) _ _ a
end M
end Go.Proofs.Ythacjdlohmkpoaa

namespace Go.Proofs.Ythacjdlohmkpoaa
open Go.RowKit

/-- Whether a number is that of an element. -/
def M.inB (n : Nat) (x : Int) : Bool := decide (0 ≤ x) && decide (x < (n : Int))

set_option maxHeartbeats 2000000 in
set_option maxRecDepth 100000 in
theorem hasAll1_any (t : M.Tb) (p : Tp) (r : Nat → Nat) (B : Nat) (x : Int) (w : World) (hk : KnBox w B t p r) :
    Calls Try.prog 66 #[.int .i64 x, .pointer (some ⟨B, 0, none⟩)] w fun e w' => e = .returned (.bool (M.inB t.elems.length x)) ∧ w = w' := by
  have c1 := hk.c1
  clear hk
  by_cases h : 0 ≤ x
  · have d1 : decide ((0 : Int) ≤ x) = true := decide_eq_true h
    have HR := Lib.hid (show M.inB t.elems.length x = decide (x < (t.elems.length : Int)) from by unfold M.inB; rw [d1, Bool.true_and])
    clear h
    go_enter Try.func66, Try.ntmps66
    go_wp2_with fail
    go_ret
    exact ⟨ret_bool HR.out.symm, rfl⟩
  · have d1 : decide ((0 : Int) ≤ x) = false := decide_eq_false h
    have HR := Lib.hid (show M.inB t.elems.length x = false from by unfold M.inB; rw [d1, Bool.false_and])
    clear h
    go_enter Try.func66, Try.ntmps66
    go_wp2_with fail
    go_ret
    exact ⟨ret_bool HR.out.symm, rfl⟩

theorem enters_hasAll1 : ∀ args w, (callFunc 66 args).run Try.prog w = .ok (.enter 66 args) w := enters_of Try.func66 (by kernel_rfl) rfl

set_option maxHeartbeats 2000000 in
set_option maxRecDepth 100000 in
theorem hasAll_any (t : M.Tb) (p : Tp) (r : Nat → Nat) (a : Option Addr) (c : Nat) (l : List Int) (w : World) (hl : l.length ≤ 1000000) (ho : IntSl w a l) :
    Calls Try.prog 39 #[knV t p r, .slice a l.length c] w fun e w' => e = .returned (.bool (M.allN (fun i => M.inB t.elems.length (l.getD i 0)) l.length)) ∧ Below w.heap.size w w' := by
  have hk := knBox (t := t) (p := p) (r := r) (box_new w (knA t p r) 65)
  have HV := Lib.hid (vec_of_cel (Value.int .i64) 0 (ho.below (below1 w (.cells (knA t p r) 65))))
  have HC := Lib.hid (every_int a l.length c 66 #[.pointer (some ⟨w.heap.size, 0, none⟩)] (fun i => .int .i64 (l.getD i 0)) (fun i => M.inB t.elems.length (l.getD i 0)) (w.alloc (.cells (knA t p r) 65)) hl HV.out enters_hasAll1 (fun i hi w1 hB1 => (hasAll1_any t p r w.heap.size (l.getD i 0) w1 (hk.below hB1)).mono fun e w2 ⟨he, hw⟩ => ⟨he, by rw [← hw]; exact Below.refl _ _⟩))
  clear ho hk
  go_enter Try.func39, Try.ntmps39
  go_wp2_with fail
  refine HC.out.mono ?_
  rintro e w1 ⟨rfl, hB1⟩
  have hB := below2 (below1 w (.cells (knA t p r) 65)) hB1
  go_wp2_with fail
  go_ret
  exact ⟨rfl, hB⟩
/-- What Reach comes to. -/
def ReachPost (t : M.Tb) (a : Int) (w : World) (e : Ending) (w' : World) : Prop :=
  ((¬ M.form t ∧ e = .returned (.tuple #[.slice none 0 0, .int .i64 4])) ∨ (M.form t ∧ M.inB t.elems.length a = false ∧ e = .returned (.tuple #[.slice none 0 0, .int .i64 7])) ∨
    (M.form t ∧ M.inB t.elems.length a = true ∧ ∃ ad c, e = .returned (.tuple #[.slice ad (M.listN (M.know t a.toNat) 12).length c, .int .i64 0]) ∧ IntSl w' ad (M.listN (M.know t a.toNat) 12))) ∧ Below w.heap.size w w'
theorem reach_1 {t : M.Tb} {a : Int} {w w' : World} (h : ¬ M.form t) (hB : Below w.heap.size w w') : ReachPost t a w (.returned (.tuple #[.slice none 0 0, .int .i64 4])) w' := ⟨Or.inl ⟨h, rfl⟩, hB⟩
theorem reach_2 {t : M.Tb} {a : Int} {w w' : World} (h : M.form t) (ha : M.inB t.elems.length a = false) (hB : Below w.heap.size w w') : ReachPost t a w (.returned (.tuple #[.slice none 0 0, .int .i64 7])) w' := ⟨Or.inr (Or.inl ⟨h, ha, rfl⟩), hB⟩
theorem reach_3 {t : M.Tb} {a : Int} {w w' : World} {ad : Option Addr} {c : Nat} (h : M.form t) (ha : M.inB t.elems.length a = true) (hl : IntSl w' ad (M.listN (M.know t a.toNat) 12)) (hB : Below w.heap.size w w') : ReachPost t a w (.returned (.tuple #[.slice ad (M.listN (M.know t a.toNat) 12).length c, .int .i64 0])) w' := ⟨Or.inr (Or.inr ⟨h, ha, ad, c, rfl, hl⟩), hB⟩

set_option maxHeartbeats 8000000 in
set_option maxRecDepth 100000 in
theorem reach_any (t : M.Tb) (p : Tp) (a : Int) (w : World) (hal : ∀ l, l ∈ t.above → l.length ≤ 1000000) (ht : TbIn w t p) : Calls Try.prog 25 #[tbV t p, .int .i64 a] w (ReachPost t a w) := by
  have HC := Lib.hid (formed_any t p (w.alloc (.cells (tbA t p) 26)) hal (ht.below (below1 _ _)))
  obtain ⟨c0, c1, c2, c3⟩ := tbBox (t := t) (p := p) (box_new w (tbA t p) 26)
  clear ht
  go_enter Try.func25, Try.ntmps25
  go_wp2_with fail
  refine HC.out.mono ?_
  rintro e w1 ⟨⟨hf, rfl⟩ | ⟨hf, rfl⟩, hB1⟩
  · have HF := Lib.hid hf
    have hB := below2 (below1 w (.cells (tbA t p) 26)) hB1
    clear hf hB1 c0 c1 c2 c3
    have HK := Lib.hid (knBox (t := t) (p := p) (r := M.know t) (box_new w1 (knA t p (M.know t)) 65))
    have hkl := M.know_lt HF.out
    have HKL := Lib.hid hkl
    have hn12 : t.elems.length ≤ 12 := HF.out.twelve
    clear hkl
    go_wp2_with fail
    refine (hasAll_any t p (M.know t) (some ⟨w1.heap.size + 1, 0, none⟩) 1 [a] _ (by show 1 ≤ 1000000; omega) (Or.inr ⟨w1.heap.size + 1, 0, rfl, by simp, fun i hi => by
        have : i = 0 := by simpa using hi
        subst this
        rw [World.cell?_alloc_at _ _ _ _ (by simp)]; rfl⟩)).mono ?_
    rintro e w2 ⟨rfl, hB2⟩
    have hall : M.allN (fun i => M.inB t.elems.length ([a].getD i 0)) [a].length = M.inB t.elems.length a := by
      unfold M.allN; simp [List.range_succ]
    rw [hall]
    have HK2 := Lib.hid ((HK.out.below (below1 _ (.cells #[.int .i64 a] 3))).below hB2)
    have hBf := below2 (belowA (belowA hB _) _) hB2
    clear hall hB hB2
    cases hin : M.inB t.elems.length a with
    | false =>
      have HIN := Lib.hid hin
      clear hin
      go_wp2_with fail
      go_ret2
      exact reach_2 HF.out HIN.out hBf
    | true =>
      have HIN := Lib.hid hin
      unfold M.inB at hin
      simp only [Bool.and_eq_true, decide_eq_true_eq] at hin
      obtain ⟨k, rfl⟩ : ∃ k : Nat, a = k := ⟨a.toNat, by omega⟩
      have hk12 : k < 12 := by omega
      have n1 : (k : Int) < 12 := by omega
      have n2 : (0 : Int) ≤ (k : Int) := by omega
      have hm := HK2.out.m k hk12
      clear hin
      go_wp2_with fail
      refine (list_any (M.know t k) _ (Nat.lt_trans (HKL.out k) (by omega))).mono ?_
      rintro e w3 ⟨ad, c, rfl, h1, h2, h3, hB3⟩
      have H3 := Lib.hid h3
      have hBg := below2 hBf hB3
      clear h1 h2 h3
      go_wp2_with fail
      go_ret2
      exact reach_3 HF.out HIN.out H3.out hBg
  · have HF := Lib.hid hf
    have hB := below2 (below1 w (.cells (tbA t p) 26)) hB1
    clear hf hB1 c0 c1 c2 c3
    go_wp2_with fail
    go_ret2
    exact reach_1 HF.out (belowA hB _)
end Go.Proofs.Ythacjdlohmkpoaa
