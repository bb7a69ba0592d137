/- Texts of one's own, joined: OrdF. -/
import Derived.Test.YtnhnjfoboepffaaGr2
import Derived.Test.YtnhnjfoboepffaaGr3
namespace Go.Proofs.Ytnhnjfoboepffaa
open Go.RowKit

set_option maxHeartbeats 1000000 in
set_option maxRecDepth 100000 in
theorem index_any (a : Option Addr) (c : Nat) (l : List ByteArray) (s : ByteArray) (w : World) (hl : l.length ≤ 1000000) (ho : StrSl w a l) :
    Calls Try.prog 104 #[.slice a l.length c, .string s] w fun e w' => e = .returned (.int .i64 (M.findI l s)) ∧ w = w' := by
  have HO := Lib.hid ho
  clear ho
  go_enter Try.func104, Try.ntmps104
  go_wp2_with fail
  go_loop [8] (fun i => ∃ k : Nat, k ≤ l.length ∧ i = .int .i64 k ∧ Hid (∀ j, (hj : j < l.length) → j < k → l[j] ≠ s)) (fun i => l.length - (intOf i).toNat)
  case atStart => exact ⟨0, by omega, rfl, Lib.hid (fun j _ hj => by omega)⟩
  case round =>
    obtain ⟨k, hk, rfl, HA⟩ := hrel
    by_cases hkl : k < l.length
    · obtain ⟨b, off, rfl, ha⟩ := HO.out.at hkl
      have c0 := ha.at_ k hkl
      have hyes := fun e => M.findI_stop l s k hkl HA.out e
      have hnx : l[k] ≠ s → ∀ j, (hj : j < l.length) → j < k + 1 → l[j] ≠ s := fun hn j hj hjk => by
        rcases Nat.lt_succ_iff_lt_or_eq.1 hjk with h | rfl
        · exact HA.out j hj h
        · exact hn
      obtain ⟨x, hx⟩ : ∃ x, l[k] = x := ⟨_, rfl⟩
      rw [hx] at c0 hyes hnx
      have HYES := Lib.hid hyes
      have HNX := Lib.hid hnx
      have n1 : (k : Int) < (l.length : Int) := by omega
      have n2 : (0 : Int) ≤ (k : Int) := by omega
      clear ha hx hyes hnx
      by_cases hxs : x = s
      · have k1 : (s.toList == x.toList) = true := by rw [hxs]; exact beq_self_eq_true _
        have HR := Lib.hid (HYES.out hxs)
        clear hxs
        go_wp2_with fail
        go_ret
        exact ⟨ret_int HR.out.symm, rfl⟩
      · have k1 : (s.toList == x.toList) = false := by
          rw [beq_eq_false_iff_ne]
          intro q
          rw [ByteArray.toList_eq, ByteArray.toList_eq] at q
          exact hxs (M.ba_ext q.symm)
        have HN := Lib.hid (HNX.out hxs)
        clear hxs
        go_wp2_with fail
        go_round
        case rel => exact ⟨k + 1, by omega, by go_num, HN⟩
        case measure => simp [intOf]; omega
    · obtain rfl : k = l.length := by omega
      have m1 : decide ((l.length : Int) < (l.length : Int)) = false := decide_eq_false (by omega)
      have HR := Lib.hid (M.findI_all l s (fun j hj => HA.out j hj hj))
      go_wp2_with fail
      go_ret
      exact ⟨ret_int HR.out.symm, rfl⟩

/-- Whether a text is one of some. -/
def M.hasB (l : List ByteArray) (s : ByteArray) : Bool := decide (M.findN l s < l.length)
theorem M.hasB_iff (l : List ByteArray) (s : ByteArray) : M.hasB l s = true ↔ s ∈ l := by unfold M.hasB; rw [decide_eq_true_eq]; exact M.findN_mem l s
theorem has_decide (l : List ByteArray) (s : ByteArray) : decide ((0 : Int) ≤ M.findI l s) = M.hasB l s := by
  unfold M.findI M.hasB
  rw [Bool.eq_iff_iff]
  simp only [decide_eq_true_eq]
  split
  · exact ⟨fun _ => by assumption, fun _ => by omega⟩
  · exact ⟨fun h => by omega, fun h => absurd h (by assumption)⟩

set_option maxHeartbeats 1000000 in
set_option maxRecDepth 100000 in
theorem contains_any (a : Option Addr) (c : Nat) (l : List ByteArray) (s : ByteArray) (w : World) (hl : l.length ≤ 1000000) (ho : StrSl w a l) :
    Calls Try.prog 92 #[.slice a l.length c, .string s] w fun e w' => e = .returned (.bool (M.hasB l s)) ∧ w = w' := by
  have HC := Lib.hid (index_any a c l s w hl ho)
  have HR := Lib.hid (has_decide l s)
  clear ho
  go_enter Try.func92, Try.ntmps92
  go_wp2_with fail
  refine HC.out.mono ?_
  rintro e w1 ⟨rfl, rfl⟩
  go_wp2_with fail
  go_ret
  exact ⟨ret_bool HR.out, rfl⟩

/-- The words with which texts of shapes begin, as the code keeps them. -/
def M.words8 : List ByteArray := [⟨#[]⟩, ⟨#[102, 108, 97, 103]⟩, ⟨#[109, 97, 120]⟩, ⟨#[115, 101, 116]⟩, ⟨#[111, 110, 99, 101]⟩, ⟨#[]⟩, ⟨#[109, 97, 112]⟩, ⟨#[112, 97, 105, 114]⟩]

set_option maxHeartbeats 1000000 in
set_option maxRecDepth 100000 in
theorem shapeWords_any (w : World) : Calls Try.prog 75 #[] w fun e w' => e = .returned (.slice (some ⟨w.heap.size, 0, none⟩) M.words8.length 8) ∧ StrSl w' (some ⟨w.heap.size, 0, none⟩) M.words8 ∧ Below w.heap.size w w' := by
  go_enter Try.func75, Try.ntmps75
  go_wp2_with fail
  go_ret
  refine ⟨rfl, Or.inr ⟨w.heap.size, 0, rfl, by simp, fun i hi => ?_⟩, below1 _ _⟩
  rw [Nat.zero_add, World.cell?_alloc_at _ _ _ _ rfl]
  have hi6 : i < 8 := hi
  match i, hi6 with
  | 0, _ => rfl
  | 1, _ => rfl
  | 2, _ => rfl
  | 3, _ => rfl
  | 4, _ => rfl
  | 5, _ => rfl
  | 6, _ => rfl
  | 7, _ => rfl

theorem words8_has (s : ByteArray) (h : s.size ≠ 0) : s ∈ M.words8 ↔ s ∈ M.words := by
  unfold M.words8 M.words
  simp only [List.mem_cons, List.not_mem_nil, or_false]
  have h0 : s ≠ ⟨#[]⟩ := fun e => h (by rw [e]; rfl)
  constructor
  · rintro (e | e | e | e | e | e | e | e)
    · exact absurd e h0
    · exact Or.inl e
    · exact Or.inr (Or.inl e)
    · exact Or.inr (Or.inr (Or.inl e))
    · exact Or.inr (Or.inr (Or.inr (Or.inl e)))
    · exact absurd e h0
    · exact Or.inr (Or.inr (Or.inr (Or.inr (Or.inl e))))
    · exact Or.inr (Or.inr (Or.inr (Or.inr (Or.inr e))))
  · rintro (e | e | e | e | e | e)
    · exact Or.inr (Or.inl e)
    · exact Or.inr (Or.inr (Or.inl e))
    · exact Or.inr (Or.inr (Or.inr (Or.inl e)))
    · exact Or.inr (Or.inr (Or.inr (Or.inr (Or.inl e))))
    · exact Or.inr (Or.inr (Or.inr (Or.inr (Or.inr (Or.inr (Or.inl e))))))
    · exact Or.inr (Or.inr (Or.inr (Or.inr (Or.inr (Or.inr (Or.inr e))))))

set_option maxHeartbeats 2000000 in
set_option maxRecDepth 100000 in
theorem isName_any (s : ByteArray) (w : World) : Calls Try.prog 77 #[.string s] w fun e w' => e = .returned (.bool (M.isNameB s.data.toList)) ∧ Below w.heap.size w w' := by
  have hls := M.size_list s
  by_cases h0 : s.size = 0
  · have h1 : s.toList = [] := by rw [ByteArray.toList_eq s]; exact List.eq_nil_of_length_eq_zero (by omega)
    have h2 : (!s.toList.isEmpty) = false := by rw [h1]; rfl
    have hr : M.isNameB s.data.toList = false := by unfold M.isNameB; rw [hls, h0]; rfl
    have HR := Lib.hid hr
    clear hr h1
    go_enter Try.func77, Try.ntmps77
    go_wp2_with fail
    go_ret
    exact ⟨ret_bool HR.out.symm, Below.refl _ _⟩
  · have hne : s.data.toList ≠ [] := fun e => h0 (by rw [← hls, e]; rfl)
    have h1 : s.toList.isEmpty = false := by rw [ByteArray.toList_eq s, List.isEmpty_eq_false_iff]; exact hne
    have h2 : (!s.toList.isEmpty) = true := by rw [h1]; rfl
    clear h1 hne
    by_cases h12 : s.size ≤ 12
    · have d1 : decide ((s.size : Int) ≤ 12) = true := decide_eq_true (by omega)
      have hsz : 0 < s.size := by omega
      have z0 : (0 : Int) < (s.size : Int) := by omega
      have hg := getD_0 s hsz
      have hrr : M.isNameB s.data.toList = (M.letB s[0] && s.data.toList.all M.nameB) := by
        unfold M.isNameB
        rw [hls, hg, decide_eq_true (show 1 ≤ s.size by omega), decide_eq_true h12]
        simp only [Bool.true_and]
      obtain ⟨c0, hc0⟩ : ∃ c, s[0] = c := ⟨_, rfl⟩
      rw [hc0] at hrr
      have hc0' : s[0]'hsz = c0 := hc0
      have hw : IntKind.i32.wrap (c0.toNat : Int) = (c0.toNat : Int) := by
        have := c0.toNat_lt
        have e : c0.toNat < 256 := this
        unfold IntKind.wrap
        simp [IntKind.bits, IntKind.signed]
        omega
      have hL := isLetter_any (c0.toNat : Int) w
      have hlet : (decide ((97 : Int) ≤ (c0.toNat : Int)) && decide ((c0.toNat : Int) ≤ 122)) = M.letB c0 := by
        unfold M.letB; rw [Bool.eq_iff_iff]; simp only [Bool.and_eq_true, decide_eq_true_eq]; omega
      rw [hlet] at hL
      have HE := Lib.hid (nameEnd_any s w)
      cases hl : M.letB c0 with
      | false =>
        rw [hl] at hL hrr
        have HL := Lib.hid hL
        have HR := Lib.hid hrr
        clear hL hrr hlet hl hc0 hg
        go_enter Try.func77, Try.ntmps77
        go_wp2_with fail
        refine HL.out.mono ?_
        rintro e w1 ⟨rfl, rfl⟩
        go_wp2_with fail
        go_ret
        exact ⟨ret_bool (by rw [HR.out]; rfl), Below.refl _ _⟩
      | true =>
        rw [hl] at hL hrr
        have hend : decide ((M.endN s.data.toList : Int) = (s.size : Int)) = s.data.toList.all M.nameB := by
          rcases M.idx_end s with ⟨_, q1, q2⟩ | ⟨_, q1, q2⟩
          · rw [q1, q2]; exact decide_eq_true rfl
          · rw [q2]; exact decide_eq_false (by omega)
        have hend2 : ((M.endN s.data.toList : Int) == (s.size : Int)) = s.data.toList.all M.nameB := by rw [← hend]; rfl
        have HL := Lib.hid hL
        have HR := Lib.hid hrr
        have HQ := Lib.hid hend2
        clear hL hrr hlet hl hc0 hg hend hend2
        go_enter Try.func77, Try.ntmps77
        go_wp2_with fail
        refine HL.out.mono ?_
        rintro e w1 ⟨rfl, rfl⟩
        go_wp2_with fail
        refine HE.out.mono ?_
        rintro e w1 ⟨rfl, hB⟩
        go_wp2_with fail
        go_ret
        exact ⟨ret_bool (by rw [HR.out, ← HQ.out]; rfl), hB⟩
    · have d1 : decide ((s.size : Int) ≤ 12) = false := decide_eq_false (by omega)
      have hr : M.isNameB s.data.toList = false := by unfold M.isNameB; rw [hls, decide_eq_false h12]; simp
      have HR := Lib.hid hr
      clear hr
      go_enter Try.func77, Try.ntmps77
      go_wp2_with fail
      go_ret
      exact ⟨ret_bool HR.out.symm, Below.refl _ _⟩

set_option maxHeartbeats 2000000 in
set_option maxRecDepth 100000 in
theorem isTableName_any (s : ByteArray) (w : World) : Calls Try.prog 73 #[.string s] w fun e w' => e = .returned (.bool (M.isTabB s)) ∧ Below w.heap.size w w' := by
  have hN := isName_any s w
  cases hn : M.isNameB s.data.toList with
  | false =>
    have hr : M.isTabB s = false := by unfold M.isTabB; rw [hn]; rfl
    rw [hn] at hN
    have HN := Lib.hid hN
    have HR := Lib.hid hr
    clear hn hr hN
    go_enter Try.func73, Try.ntmps73
    go_wp2_with fail
    refine HN.out.mono ?_
    rintro e w1 ⟨rfl, hB⟩
    go_wp2_with fail
    go_ret
    exact ⟨ret_bool HR.out.symm, hB⟩
  | true =>
    have hr : M.isTabB s = !M.hasB M.words8 s := by
      have h0 : s.size ≠ 0 := fun e => by unfold M.isNameB at hn; rw [M.size_list, e] at hn; simp at hn
      unfold M.isTabB
      rw [hn, Bool.true_and, Bool.eq_iff_iff]
      simp only [decide_eq_true_eq, Bool.not_eq_true']
      rw [M.findI_neg M.words s, ← words8_has s h0, ← M.hasB_iff]
      simp
    rw [hn] at hN
    have HN := Lib.hid hN
    have HR := Lib.hid hr
    clear hn hr hN
    go_enter Try.func73, Try.ntmps73
    go_wp2_with fail
    refine HN.out.mono ?_
    rintro e w1 ⟨rfl, hB⟩
    go_wp2_with fail
    refine (shapeWords_any _).mono ?_
    rintro e w2 ⟨rfl, hst, hB2⟩
    have HST := Lib.hid hst
    clear hst
    go_wp2_with fail
    refine (contains_any _ 8 M.words8 s _ (by decide) HST.out).mono ?_
    rintro e w3 ⟨rfl, rfl⟩
    go_wp2_with fail
    go_ret
    exact ⟨ret_bool HR.out.symm, below2 hB hB2⟩
end Go.Proofs.Ytnhnjfoboepffaa
