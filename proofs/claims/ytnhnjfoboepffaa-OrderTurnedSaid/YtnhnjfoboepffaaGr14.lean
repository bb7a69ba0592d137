/- Texts of one's own, joined: OrdL, OrdS, OrdP, OrdDh. -/
import Derived.Test.YtnhnjfoboepffaaGr13
import Derived.Test.YtnhnjfoboepffaaGr1
import Derived.Test.YtnhnjfoboepffaaGr10
import Derived.WalkSpells
namespace Go.Proofs.Ytnhnjfoboepffaa
namespace M
/-- One step up, or none. -/
def stp (t : Tb) (a b : Nat) : Prop := b = a ∨ (b : Int) ∈ t.above.getD a []
/-- Steps up, as many as one likes. -/
inductive Ways (t : Tb) : Nat → Nat → Prop
  | one {a b : Nat} : stp t a b → Ways t a b
  | more {a v b : Nat} : Ways t a v → stp t v b → Ways t a b
theorem Ways.trans {t : Tb} {a v b : Nat} (h1 : Ways t a v) (h2 : Ways t v b) : Ways t a b := by
  induction h2 with
  | one h => exact .more h1 h
  | more _ h ih => exact .more ih h
theorem Ways.refl (t : Tb) (a : Nat) : Ways t a a := .one (Or.inl rfl)
theorem stp_lt {t : Tb} (hf : form t) {a b : Nat} (ha : a < t.elems.length) (h : stp t a b) : b < t.elems.length := by
  rcases h with rfl | h
  · exact ha
  · have ha' : a < t.above.length := by rw [hf.above]; exact ha
    rw [getD_in _ _ _ ha'] at h
    obtain ⟨j, hj, e⟩ := List.getElem_of_mem h
    have := (hf.rows a ha' j hj).2.1
    omega
theorem Ways.lt {t : Tb} (hf : form t) {a b : Nat} (ha : a < t.elems.length) (h : Ways t a b) : b < t.elems.length := by
  induction h with
  | one h => exact stp_lt hf ha h
  | more _ h ih => exact stp_lt hf ih h
theorem base_bit {t : Tb} (hf : form t) (a b : Nat) (ha : a < t.elems.length) : (base t a).testBit b = true ↔ stp t a b := by
  have ha' : a < t.above.length := by rw [hf.above]; exact ha
  unfold base stp
  rw [Nat.testBit_or, Bool.or_eq_true, ofN_bit _ (fun x hx => by simp at hx; omega), ofN_bit _ (fun x hx => by
    rw [getD_in _ _ _ ha'] at hx
    obtain ⟨j, hj, rfl⟩ := List.getElem_of_mem hx
    exact (hf.rows a ha' j hj).1)]
  simp only [List.mem_singleton]
  constructor
  · rintro (h | h)
    · exact Or.inl (by omega)
    · exact Or.inr h
  · rintro (h | h)
    · exact Or.inl (by omega)
    · exact Or.inr h
theorem inner_bit (r : Nat → Nat) (v n a b : Nat) (ha : a < n) : (inner r v n a).testBit b = true ↔ (r a).testBit b = true ∨ ((r a).testBit v = true ∧ (r v).testBit b = true) := by
  unfold inner
  cases hb : (r a).testBit v with
  | true =>
    rw [if_pos ⟨ha, rfl⟩, Nat.testBit_or, Bool.or_eq_true]
    simp
  | false =>
    rw [if_neg (fun q => by cases q.2)]
    simp
theorem war_sound {t : Tb} (f : Nat → Nat) (n : Nat) (hf : ∀ a b, a < n → (f a).testBit b = true → Ways t a b) : ∀ k, k ≤ n → ∀ a b, a < n → (war f n k a).testBit b = true → Ways t a b := by
  intro k
  induction k with
  | zero => exact fun _ => hf
  | succ k ih =>
    intro hk a b ha h
    rcases (inner_bit _ k n a b ha).1 h with h | ⟨h1, h2⟩
    · exact ih (by omega) a b ha h
    · exact (ih (by omega) a k ha h1).trans (ih (by omega) k b (by omega) h2)
theorem war_keeps (f : Nat → Nat) (n : Nat) : ∀ k, ∀ a b, a < n → (f a).testBit b = true → (war f n k a).testBit b = true := by
  intro k
  induction k with
  | zero => exact fun _ _ _ h => h
  | succ k ih => exact fun a b ha h => (inner_bit _ k n a b ha).2 (Or.inl (ih a b ha h))
theorem war_trans (f : Nat → Nat) (n : Nat) : ∀ k, k ≤ n → ∀ v, v < k → ∀ a b, a < n → (war f n k a).testBit v = true → (war f n k v).testBit b = true → (war f n k a).testBit b = true := by
  intro k
  induction k with
  | zero => intro _ v hv; omega
  | succ k ih =>
    intro hk v hv a b ha h1 h2
    have hkn : k < n := by omega
    have hvn : v < n := by omega
    refine (inner_bit _ k n a b ha).2 ?_
    have q1 := (inner_bit _ k n a v ha).1 h1
    have q2 := (inner_bit _ k n v b hvn).1 h2
    have T := ih (by omega)
    rcases Nat.lt_succ_iff_lt_or_eq.1 hv with hv | rfl
    · rcases q1 with q1 | ⟨q1, q1'⟩
      · rcases q2 with q2 | ⟨q2, q2'⟩
        · exact Or.inl (T v hv a b ha q1 q2)
        · exact Or.inr ⟨T v hv a k ha q1 q2, q2'⟩
      · rcases q2 with q2 | ⟨q2, q2'⟩
        · exact Or.inr ⟨q1, T v hv k b hkn q1' q2⟩
        · exact Or.inr ⟨q1, q2'⟩
    · have p1 : (war f n v a).testBit v = true := by rcases q1 with q | ⟨q, _⟩ <;> exact q
      have p2 : (war f n v v).testBit b = true := by rcases q2 with q | ⟨_, q⟩ <;> exact q
      exact Or.inr ⟨p1, p2⟩
/-- The bits of a known table tell what can be reached. -/
theorem know_bit {t : Tb} (hf : form t) (a b : Nat) (ha : a < t.elems.length) : (know t a).testBit b = true ↔ Ways t a b := by
  have hb : ∀ a b, a < t.elems.length → ((upto (base t) t.elems.length a).testBit b = true ↔ stp t a b) := fun a b ha => by
    unfold upto
    rw [if_pos ha]
    exact base_bit hf a b ha
  constructor
  · exact war_sound _ _ (fun a b ha h => .one ((hb a b ha).1 h)) _ (Nat.le_refl _) a b ha
  · intro h
    induction h with
    | one h => exact war_keeps _ _ _ _ _ ha ((hb _ _ ha).2 h)
    | more h1 h2 ih =>
      have hv := Ways.lt hf ha h1
      exact war_trans _ _ _ (Nat.le_refl _) _ hv _ _ ha ih (war_keeps _ _ _ _ _ hv ((hb _ _ hv).2 h2))
theorem know_lt {t : Tb} (hf : form t) (a : Nat) : know t a < 4096 := war_lt (upto_lt _ fun a ha => base_lt hf a (by rw [hf.above]; exact ha)) _ _ a
end M
end Go.Proofs.Ytnhnjfoboepffaa

namespace Go.Proofs.Ytnhnjfoboepffaa
namespace M
/-- One step up. -/
def up (t : Tb) (a b : Nat) : Prop := (b : Int) ∈ t.above.getD a []
/-- Steps up, one or more. -/
inductive Stp (t : Tb) : Nat → Nat → Prop
  | one {a b : Nat} : up t a b → Stp t a b
  | more {a v b : Nat} : Stp t a v → up t v b → Stp t a b
theorem Stp.ways {t : Tb} {a b : Nat} (h : Stp t a b) : Ways t a b := by
  induction h with
  | one h => exact .one (Or.inr h)
  | more _ h ih => exact .more ih (Or.inr h)
theorem Ways.stp {t : Tb} {a b : Nat} (h : Ways t a b) : b = a ∨ Stp t a b := by
  induction h with
  | one h =>
    rcases h with h | h
    · exact Or.inl h
    · exact Or.inr (.one h)
  | more h1 h ih =>
    rcases h with h | h
    · subst h; exact ih
    · rcases ih with ih | ih
      · subst ih; exact Or.inr (.one h)
      · exact Or.inr (.more ih h)
theorem Stp.trans {t : Tb} {a v b : Nat} (h1 : Stp t a v) (h2 : Stp t v b) : Stp t a b := by
  induction h2 with
  | one h => exact .more h1 h
  | more _ h ih => exact .more ih h
theorem Stp.after {t : Tb} {a v b : Nat} (h1 : Stp t a v) (h2 : Ways t v b) : Stp t a b := by
  rcases h2.stp with rfl | h
  · exact h1
  · exact h1.trans h
theorem Stp.before {t : Tb} {a v b : Nat} (h1 : Ways t a v) (h2 : Stp t v b) : Stp t a b := by
  rcases h1.stp with rfl | h
  · exact h2
  · exact h.trans h2
theorem Stp.head {t : Tb} {a b : Nat} (h : Stp t a b) : ∃ v, up t a v ∧ Ways t v b := by
  induction h with
  | one h => exact ⟨_, h, Ways.refl _ _⟩
  | more _ h ih => obtain ⟨v, h1, h2⟩ := ih; exact ⟨v, h1, .more h2 (Or.inr h)⟩
theorem up_lt {t : Tb} (hf : form t) {a b : Nat} (ha : a < t.elems.length) (h : up t a b) : b < t.elems.length := stp_lt hf ha (Or.inr h)
theorem Stp.lt {t : Tb} (hf : form t) {a b : Nat} (ha : a < t.elems.length) (h : Stp t a b) : b < t.elems.length := h.ways.lt hf ha
/-- Whether an element is below another one; whether one comes from it to the other one by one step or more. -/
def leB (t : Tb) (a b : Nat) : Bool := (know t a).testBit b
def stB (t : Tb) (a b : Nat) : Bool := (t.above.getD a []).any fun v => leB t v.toNat b
theorem leB_iff {t : Tb} (hf : form t) {a b : Nat} (ha : a < t.elems.length) : leB t a b = true ↔ Ways t a b := know_bit hf a b ha
theorem row_nat {t : Tb} (hf : form t) {a : Nat} (ha : a < t.elems.length) {x : Int} (hx : x ∈ t.above.getD a []) : ∃ v : Nat, x = v ∧ up t a v ∧ v < t.elems.length := by
  have ha' : a < t.above.length := by rw [hf.above]; exact ha
  have hx' := hx
  rw [getD_in _ _ _ ha'] at hx'
  obtain ⟨j, hj, e⟩ := List.getElem_of_mem hx'
  have h1 := hf.rows a ha' j hj
  rw [e] at h1
  have e2 : x = ((x.toNat : Nat) : Int) := by omega
  refine ⟨x.toNat, e2, ?_, by omega⟩
  unfold up
  rw [← e2]; exact hx
theorem stB_iff {t : Tb} (hf : form t) {a b : Nat} (ha : a < t.elems.length) : stB t a b = true ↔ Stp t a b := by
  unfold stB
  rw [List.any_eq_true]
  constructor
  · rintro ⟨x, hx, h⟩
    obtain ⟨v, rfl, hu, hv⟩ := row_nat hf ha hx
    rw [Int.toNat_natCast, leB_iff hf hv] at h
    exact (Stp.one hu).after h
  · intro h
    obtain ⟨v, hu, hw⟩ := h.head
    refine ⟨(v : Int), hu, ?_⟩
    rw [Int.toNat_natCast, leB_iff hf (up_lt hf ha hu)]
    exact hw
theorem stB_lt {t : Tb} (hf : form t) {a b : Nat} (ha : a < t.elems.length) (h : stB t a b = true) : b < t.elems.length := ((stB_iff hf ha).1 h).lt hf ha
theorem leB_lt {t : Tb} (hf : form t) {a b : Nat} (ha : a < t.elems.length) (h : leB t a b = true) : b < t.elems.length := ((leB_iff hf ha).1 h).lt hf ha
theorem leB_refl {t : Tb} (hf : form t) {a : Nat} (ha : a < t.elems.length) : leB t a a = true := (leB_iff hf ha).2 (Ways.refl t a)
theorem leB_trans {t : Tb} (hf : form t) {a v b : Nat} (ha : a < t.elems.length) (h1 : leB t a v = true) (h2 : leB t v b = true) : leB t a b = true :=
  (leB_iff hf ha).2 (((leB_iff hf ha).1 h1).trans ((leB_iff hf (leB_lt hf ha h1)).1 h2))
theorem leB_or {t : Tb} (hf : form t) {a b : Nat} (ha : a < t.elems.length) : leB t a b = (decide (a = b) || stB t a b) := by
  rw [Bool.eq_iff_iff, leB_iff hf ha, Bool.or_eq_true, decide_eq_true_eq, stB_iff hf ha]
  constructor
  · intro h
    rcases h.stp with h | h
    · exact Or.inl h.symm
    · exact Or.inr h
  · rintro (rfl | h)
    · exact Ways.refl t a
    · exact h.ways
/-- What is seen, and what is still to be done, when the steps from an element are gone through. -/
structure Bfs (t : Tb) (a : Nat) (S : Nat → Bool) (T : List Nat) : Prop where
  sound : ∀ x, S x = true → Stp t a x
  todo : ∀ x, x ∈ T → x = a ∨ S x = true
  shut : ∀ x, (x = a ∨ S x = true) → x ∉ T → ∀ y, up t x y → S y = true
/-- The same while one element's steps are looked at, the first ones of them done. -/
structure BfsIn (t : Tb) (a : Nat) (S : Nat → Bool) (T : List Nat) (v k : Nat) : Prop where
  sound : ∀ x, S x = true → Stp t a x
  todo : ∀ x, x ∈ T → x = a ∨ S x = true
  at_ : v = a ∨ S v = true
  shut : ∀ x, (x = a ∨ S x = true) → x ∉ T → x ≠ v → ∀ y, up t x y → S y = true
  done : ∀ j, j < k → ∀ h : j < (t.above.getD v []).length, S ((t.above.getD v [])[j]).toNat = true
theorem Bfs.start (t : Tb) (a : Nat) : Bfs t a (fun _ => false) [a] :=
  ⟨fun _ h => (by cases h), fun x hx => Or.inl (by simpa using hx), fun x hx hn => by
    rcases hx with rfl | hx
    · simp at hn
    · cases hx⟩
theorem Bfs.pop {t : Tb} {a v : Nat} {S : Nat → Bool} {T : List Nat} (h : Bfs t a S (v :: T)) : BfsIn t a S T v 0 :=
  ⟨h.sound, fun x hx => h.todo x (List.mem_cons_of_mem _ hx), h.todo v List.mem_cons_self, fun x hx hn hv => h.shut x hx (by rw [List.mem_cons]; exact fun q => q.elim hv hn), fun j hj => by omega⟩
theorem BfsIn.yes {t : Tb} {a v k : Nat} {S : Nat → Bool} {T : List Nat} (h : BfsIn t a S T v k) (hk : k < (t.above.getD v []).length) (hs : S ((t.above.getD v [])[k]).toNat = true) : BfsIn t a S T v (k + 1) :=
  ⟨h.sound, h.todo, h.at_, h.shut, fun j hj hjl => by
    rcases Nat.lt_succ_iff_lt_or_eq.1 hj with q | rfl
    · exact h.done j q hjl
    · exact hs⟩
theorem BfsIn.push {t : Tb} {a v k y : Nat} {S : Nat → Bool} {T : List Nat} (h : BfsIn t a S T v k) (hk : k < (t.above.getD v []).length) (hy : (t.above.getD v [])[k] = (y : Int)) :
    BfsIn t a (fun i => if i = y then true else S i) (T ++ [y]) v (k + 1) := by
  have hu : up t v y := by unfold up; rw [← hy]; exact List.getElem_mem _
  have hs : ∀ i, S i = true → (if i = y then true else S i) = true := fun i hi => by split <;> first | rfl | exact hi
  refine ⟨fun x hx => ?_, fun x hx => ?_, h.at_.imp id (hs v), fun x hx hn hv z hz => ?_, fun j hj hjl => ?_⟩
  · by_cases e : x = y
    · subst e
      rcases h.at_ with q | q
      · subst q; exact .one hu
      · exact .more (h.sound v q) hu
    · rw [if_neg e] at hx; exact h.sound x hx
  · rcases List.mem_append.1 hx with hx | hx
    · exact (h.todo x hx).imp id (hs x)
    · have : x = y := by simpa using hx
      right; rw [if_pos this]
  · have hxy : x ≠ y := fun e => hn (by rw [e]; simp)
    rw [if_neg hxy] at hx
    exact hs z (h.shut x hx (fun q => hn (List.mem_append_left _ q)) hv z hz)
  · rcases Nat.lt_succ_iff_lt_or_eq.1 hj with q | rfl
    · exact hs _ (h.done j q hjl)
    · rw [hy, Int.toNat_natCast, if_pos rfl]
theorem BfsIn.fin {t : Tb} {a v : Nat} {S : Nat → Bool} {T : List Nat} (h : BfsIn t a S T v (t.above.getD v []).length) : Bfs t a S T :=
  ⟨h.sound, h.todo, fun x hx hn y hy => by
    by_cases e : x = v
    · subst e
      obtain ⟨j, hj, e⟩ := List.getElem_of_mem hy
      have := h.done j hj hj
      rw [e, Int.toNat_natCast] at this
      exact this
    · exact h.shut x hx hn e y hy⟩
theorem Bfs.fin {t : Tb} {a : Nat} {S : Nat → Bool} (h : Bfs t a S []) (b : Nat) : S b = true ↔ Stp t a b := by
  refine ⟨h.sound b, fun q => ?_⟩
  induction q with
  | one q => exact h.shut _ (Or.inl rfl) (by simp) _ q
  | more _ q ih => exact h.shut _ (Or.inr ih) (by simp) _ q
/-- How many are not seen. -/
def unseen (S : Nat → Bool) (n : Nat) : Nat := ((List.range n).filter fun i => !S i).length
theorem unseen_push (S : Nat → Bool) (n y : Nat) (hy : y < n) (hs : S y = false) : unseen (fun i => if i = y then true else S i) n + 1 = unseen S n := by
  unfold unseen
  induction n with
  | zero => omega
  | succ n ih =>
    rw [List.range_succ, List.filter_append, List.filter_append, List.length_append, List.length_append]
    by_cases e : y = n
    · subst e
      have h1 : (List.range y).filter (fun i => !(if i = y then true else S i)) = (List.range y).filter (fun i => !S i) := by
        apply List.filter_congr
        intro i hi
        rw [if_neg (by have := List.mem_range.1 hi; omega)]
      rw [h1]
      simp [hs]
    · have := ih (by omega)
      have h2 : (List.filter (fun i => !(if i = y then true else S i)) [n]) = List.filter (fun i => !S i) [n] := by
        apply List.filter_congr
        intro i hi
        have : i = n := by simpa using hi
        rw [if_neg (by omega)]
      rw [h2]; omega
theorem unseen_le (S : Nat → Bool) (n : Nat) : unseen S n ≤ n := by
  unfold unseen
  exact Nat.le_trans (List.length_filter_le _ _) (by rw [List.length_range]; exact Nat.le_refl _)
end M
end Go.Proofs.Ytnhnjfoboepffaa

namespace Go.Proofs.Ytnhnjfoboepffaa
open Go.RowKit

set_option maxHeartbeats 2000000 in
set_option maxRecDepth 100000 in
theorem comesBack1_any (t : M.Tb) (p : Tp) (r : Nat → Nat) (B C : Nat) (x a : Nat) (w : World) (hk : KnBox w B t p r) (hr : ∀ i, r i < 4096) (hx : x < 12) (ha : a < 16) (hc : w.cell? ⟨C, 0, none⟩ = some (.int .i64 a)) :
    Calls Try.prog 89 #[.int .i64 x, .pointer (some ⟨B, 0, none⟩), .pointer (some ⟨C, 0, none⟩)] w fun e w' => e = .returned (.bool (!(r x).testBit a)) ∧ Below w.heap.size w w' := by
  have hm := hk.m x hx
  have HC := Lib.hid fun W => has_any (r x) a W (Nat.lt_trans (hr x) (by omega)) ha
  have n1 : (x : Int) < 12 := by omega
  have n2 : (0 : Int) ≤ (x : Int) := by omega
  have hB : Below w.heap.size w w := Below.refl _ _
  clear hk hr
  go_enter Try.func89, Try.ntmps89
  go_wp2_with fail
  go_quiet ((go_at_call 63; exact Calls.quiet_of ((HC.out _).mono fun e w' ⟨he, hw⟩ => ⟨he, 0, hw.symm⟩)))
  go_wp2_with fail
  go_ret
  exact ⟨rfl, belowN hB _⟩

theorem enters_comesBack1 : ∀ args w, (callFunc 89 args).run Try.prog w = .ok (.enter 89 args) w := enters_of Try.func89 (by kernel_rfl) rfl

set_option maxHeartbeats 4000000 in
set_option maxRecDepth 100000 in
theorem comesBack_any (t : M.Tb) (p : Tp) (a : Nat) (w : World) (ht : TbIn w t p) (hf : M.form t) (ha : a < t.elems.length) (hlen : (t.above.getD a []).length ≤ 1000000) :
    Calls Try.prog 65 #[knV t p (M.know t), .int .i64 a] w fun e w' => e = .returned (.bool (!M.allN (fun i => !(M.know t ((t.above.getD a []).getD i 0).toNat).testBit a) (t.above.getD a []).length)) ∧ Below w.heap.size w w' := by
  obtain ⟨pea, pec, paa, pac, pwa, pwc⟩ := p
  have ha' : a < t.above.length := by rw [hf.above]; exact ha
  have h12 := hf.twelve
  have hBB : Below w.heap.size w ((w.alloc (.cells (knA t ⟨pea, pec, paa, pac, pwa, pwc⟩ (M.know t)) 62)).alloc (.cells #[.int .i64 a] 3)) := belowA (below1 _ _) _
  have hk := (knBox (t := t) (p := ⟨pea, pec, paa, pac, pwa, pwc⟩) (r := M.know t) (box_new w (knA t ⟨pea, pec, paa, pac, pwa, pwc⟩ (M.know t)) 62)).below (below1 _ (.cells #[.int .i64 a] 3))
  have hcc : ((w.alloc (.cells (knA t ⟨pea, pec, paa, pac, pwa, pwc⟩ (M.know t)) 62)).alloc (.cells #[.int .i64 a] 3)).cell? ⟨w.heap.size + 1, 0, none⟩ = some (.int .i64 a) := by
    rw [World.cell?_alloc_at _ _ _ _ (by simp)]; rfl
  rw [getD_in _ _ _ ha'] at hlen ⊢
  obtain ⟨b, off, ea, hat⟩ := (ht.below hBB).as_.at ha'
  obtain ⟨ra, rc, q, _, _, hrow⟩ := hat.at_ a ha'
  dsimp only at ea
  subst ea
  have hV := vec_of_cel (Value.int .i64) 0 hrow
  have hcall := every_int ra t.above[a].length rc 89 #[.pointer (some ⟨w.heap.size, 0, none⟩), .pointer (some ⟨w.heap.size + 1, 0, none⟩)] (fun i => .int .i64 (t.above[a].getD i 0)) (fun i => !(M.know t (t.above[a].getD i 0).toNat).testBit a) _ hlen hV enters_comesBack1 (fun i hi w1 hB1 => by
    have hx := M.asc_in (hf.rows a ha') h12 i hi
    rw [getD_in _ _ _ hi]
    obtain ⟨x, hxe⟩ : ∃ x : Nat, t.above[a][i] = (x : Int) := ⟨(t.above[a][i]).toNat, by omega⟩
    rw [hxe] at hx ⊢
    rw [Int.toNat_natCast]
    exact comesBack1_any t _ (M.know t) w.heap.size (w.heap.size + 1) x a w1 (hk.below hB1) (M.know_lt hf) (by omega) (by omega) (cell_below hcc hB1))
  have HC := Lib.hid hcall
  have HBB := Lib.hid hBB
  obtain ⟨k0, k1, k2, k3, _, _⟩ := hk
  obtain ⟨L, hL⟩ : ∃ L, t.above[a] = L := ⟨_, rfl⟩
  rw [hL] at q HC ⊢
  have n1 : (a : Int) < (t.above.length : Int) := by omega
  have n2 : (0 : Int) ≤ (a : Int) := by omega
  clear hcall hV hrow hat hBB ht hf hL hlen
  go_enter Try.func65, Try.ntmps65
  go_wp2_with fail
  refine HC.out.mono ?_
  rintro e w1 ⟨rfl, hB1⟩
  have hB := below2 HBB.out hB1
  go_wp2_with fail
  go_ret
  exact ⟨rfl, hB⟩
end Go.Proofs.Ytnhnjfoboepffaa

namespace Go.Proofs.Ytnhnjfoboepffaa
open Go.RowKit

/-- A result that is a list of one's own in a new block. -/
def OwnPost (e0 : TypeId) (n : Nat) (xs : List Value) (w : World) (e : Ending) (w' : World) : Prop := ∃ v, e = .returned v ∧ w'.ownsRow w.heap.size e0 1 v n xs ∧ Below w.heap.size w w'

set_option maxHeartbeats 1000000 in
set_option maxRecDepth 100000 in
theorem cloneS_any (a : Option Addr) (c : Nat) (l : List ByteArray) (w : World) (hc : a = none → c = 0) (hl : l.length ≤ 1000000) (hs : StrSl w a l) :
    Calls Try.prog 51 #[.slice a l.length c] w (OwnPost 9 l.length (l.map .string) w) := by
  cases a with
  | none =>
    have h0 : l = [] := by
      rcases hs with h | ⟨_, _, h, _⟩
      · exact h
      · cases h
    subst h0
    have hnil : ∀ W, (binOp .eql 22 (.slice none 0 c) (.slice none 0 0)).run Try.prog W = .ok (.bool true) W := fun W => Lib.run_eql_slice_nil W 22 9 none 0 c 0 0 Try.underlying22
    clear hc
    go_enter Try.func51, Try.ntmps51
    go_wp2_with fail
    go_ret
    exact ⟨_, rfl, ⟨rfl, Or.inl ⟨rfl, rfl⟩⟩, Below.refl _ _⟩
  | some ad =>
    have hnil : ∀ W, (binOp .eql 22 (.slice (some ad) l.length c) (.slice none 0 0)).run Try.prog W = .ok (.bool false) W := fun W => Lib.run_eql_slice_nil W 22 9 (some ad) l.length c 0 0 Try.underlying22
    obtain ⟨i0, hi, hz0, hz1, hz2⟩ := info_parts strInfo
    have HS := Lib.hid (hs.below (below1 w (.cells #[] 9)))
    have HL := Lib.hid hl
    clear hs hc hl
    go_enter Try.func51, Try.ntmps51
    go_wp2_with (at_builtin; refine wpList_app_cel (f := Value.string) _ rfl _ _ 22 rfl 9 i0 (.string ⟨#[]⟩) 16 Try.underlying22 hi hz0 hz1 hz2 rfl (by decide) (fun _ => rfl) w.heap.size _ [] rfl (own_made w w.heap.size 9 1 (Nat.le_refl _)) (by simp) (some ad) c l rfl (by intro h; cases h) HS.out ?c1 ?_)
    case c1 => have := HL.out; simpa using this
    intro v' w' k1 k2 _ _
    have HO := Lib.hid k1
    have HB := Lib.hid ((below1 w (.cells #[] 9)).grown k2 (by simp) (fun g hg => by cases hg; exact Nat.le_refl _))
    clear k1 k2 hi hz0 hz1 hz2
    obtain ⟨a', c', rfl⟩ := own_slice' HO.out
    go_wp2_with fail
    go_ret
    exact ⟨_, rfl, HO.out, HB.out⟩

set_option maxHeartbeats 1000000 in
set_option maxRecDepth 100000 in
theorem cloneB_any (a : Option Addr) (c : Nat) (l : List Bool) (w : World) (hc : a = none → c = 0) (hl : l.length ≤ 1000000) (hs : BoolSl w a l) :
    Calls Try.prog 52 #[.slice a l.length c] w (OwnPost 4 l.length (l.map .bool) w) := by
  cases a with
  | none =>
    have h0 : l = [] := by
      rcases hs with h | ⟨_, _, h, _⟩
      · exact h
      · cases h
    subst h0
    have hnil : ∀ W, (binOp .eql 24 (.slice none 0 c) (.slice none 0 0)).run Try.prog W = .ok (.bool true) W := fun W => Lib.run_eql_slice_nil W 24 4 none 0 c 0 0 Try.underlying24
    clear hc
    go_enter Try.func52, Try.ntmps52
    go_wp2_with fail
    go_ret
    exact ⟨_, rfl, ⟨rfl, Or.inl ⟨rfl, rfl⟩⟩, Below.refl _ _⟩
  | some ad =>
    have hnil : ∀ W, (binOp .eql 24 (.slice (some ad) l.length c) (.slice none 0 0)).run Try.prog W = .ok (.bool false) W := fun W => Lib.run_eql_slice_nil W 24 4 (some ad) l.length c 0 0 Try.underlying24
    obtain ⟨i0, hi, hz0, hz1, hz2⟩ := info_parts boolInfo
    have HS := Lib.hid (hs.below (below1 w (.cells #[] 4)))
    have HL := Lib.hid hl
    clear hs hc hl
    go_enter Try.func52, Try.ntmps52
    go_wp2_with (at_builtin; refine wpList_app_cel (f := Value.bool) _ rfl _ _ 24 rfl 4 i0 (.bool false) 1 Try.underlying24 hi hz0 hz1 hz2 rfl (by decide) (fun _ => rfl) w.heap.size _ [] rfl (own_made w w.heap.size 4 1 (Nat.le_refl _)) (by simp) (some ad) c l rfl (by intro h; cases h) HS.out ?c1 ?_)
    case c1 => have := HL.out; simpa using this
    intro v' w' k1 k2 _ _
    have HO := Lib.hid k1
    have HB := Lib.hid ((below1 w (.cells #[] 4)).grown k2 (by simp) (fun g hg => by cases hg; exact Nat.le_refl _))
    clear k1 k2 hi hz0 hz1 hz2
    obtain ⟨a', c', rfl⟩ := own_slice' HO.out
    go_wp2_with fail
    go_ret
    exact ⟨_, rfl, HO.out, HB.out⟩
end Go.Proofs.Ytnhnjfoboepffaa
