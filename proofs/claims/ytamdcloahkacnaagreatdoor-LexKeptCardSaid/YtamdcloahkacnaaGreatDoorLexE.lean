/- DERIVED. Contracts of layer 1: what kind a word, a number, a sign is. -/
import Derived.Test.YtamdcloahkacnaaGreatDoorLexM2
import Derived.Test.YtamdcloahkacnaaGreatDoorLexB
import Derived.Test.YtamdcloahkacnaaGreatDoorLexD
import Derived.Test.YtamdcloahkacnaaGreatDoorShelf
namespace Go.Proofs.YtamdcloahkacnaaGreatDoor
open Go.RowKit Go.WideMaps Go.Maps

theorem kwD_isMap : ∀ k, IsMap (kwD k) := fun k => by
  unfold kwD
  suffices h : ∀ (l : List (List UInt8)) (D : DataW Unit), IsMap D → IsMap (l.foldl (fun D x => D.put (.string x) (.lit (.bool true))) D) from h _ _ isMap_empty
  intro l
  induction l with
  | nil => intro D h; exact h
  | cons x l ih => intro D h; obtain ⟨es, rfl⟩ := h; exact ih _ ⟨_, rfl⟩
theorem kw_at (x : List UInt8) : ∀ k, k ≤ M.kwords.length → (kwD k).atKey (.string x) (.lit (.bool false)) = .lit (.bool ((M.kwords.take k).contains x)) := by
  intro k
  induction k with
  | zero => intro _; rfl
  | succ k ih =>
    intro hk
    rw [kwD_step k (by omega), List.take_succ_eq_append_getElem (by omega)]
    by_cases e : x = M.kwords[k]
    · subst e
      rw [atKey_put_same (kwD_isMap k) (by trivial)]
      simp only [List.contains_eq_mem, List.mem_append, List.mem_singleton, or_true, decide_true]
    · rw [atKey_put_other (by simpa using e), ih (by omega)]
      simp only [List.contains_eq_mem, List.mem_append, List.mem_singleton, e, or_false]

set_option maxHeartbeats 400000 in
set_option maxRecDepth 100000 in
theorem wordKind_any (bm bs : Nat) (s : ByteArray) (w : World) (hr : RdAt w bm bs) (hs : s.size ≤ maxLen) :
    Calls Tryz.prog 61 #[rdV bm bs, .string s] w fun e w' => e = .returned (.int .u8 (M.wordKind s.data.toList)) ∧ Below w.heap.size w w' := by
  obtain ⟨c, hrun, hat⟩ := lookup_bool (hr.map.alloc (.cells #[.map (some bm), .slice (some ⟨bs, 0, none⟩) 22 22] 59)) law9 Tryz.underlying56 Tryz.underlying4 (zero4 _) (keyOf_string_mk Tryz.underlying9 hs)
  rw [kw_at _ 28 (by decide)] at hat
  have hc : c = M.kwords.contains s.data.toList := by
    have : M.kwords.take 28 = M.kwords := by decide
    rw [this] at hat
    simpa using hat.symm
  have hz := M.size_list s
  have HZ := Lib.hid hz
  clear hat hz
  cases hb : M.kwords.contains s.data.toList
  · rw [hb] at hc
    subst hc
    have HB := Lib.hid hb
    clear hb
    unfold maxLen at hs
    by_cases hl : s.size ≤ 12
    · go_enter Tryz.func61, Tryz.ntmps61
      go_wp2
      go_ret
      refine ⟨ret_int ?_, (Below.refl _ _).alloc (Nat.le_refl _) _⟩
      unfold M.wordKind
      rw [HB.out, HZ.out, if_neg (by simp), if_pos hl]; rfl
    · go_enter Tryz.func61, Tryz.ntmps61
      go_wp2
      go_ret
      refine ⟨ret_int ?_, (Below.refl _ _).alloc (Nat.le_refl _) _⟩
      unfold M.wordKind
      rw [HB.out, HZ.out, if_neg (by simp), if_neg hl]; rfl
  · rw [hb] at hc
    subst hc
    have HB := Lib.hid hb
    clear hb
    go_enter Tryz.func61, Tryz.ntmps61
    go_wp2
    go_ret
    refine ⟨ret_int ?_, (Below.refl _ _).alloc (Nat.le_refl _) _⟩
    unfold M.wordKind
    rw [HB.out, if_pos rfl]; rfl

/-- The variable of the library's that strconv.Atoi reads where a number is too great. -/
def Ready (w : World) : Prop := 1 < w.heap.size ∧ ∃ te pe, w.cell? ⟨1, 0, none⟩ = some (.iface te pe)
theorem Ready.below {w w' : World} (h : Ready w) (hb : Below w.heap.size w w') : Ready w' := by
  obtain ⟨h1, te, pe, h2⟩ := h
  exact ⟨Nat.lt_of_lt_of_le h1 hb.size, te, pe, by rw [(bcell hb).1 _ _ h1]; exact h2⟩

theorem atoi_ok (s : ByteArray) (w : World) (hs : s.size ≤ 281474976710656) (hn : s.size ≠ 0) (hd : M.allDig s.data.toList) (hv : M.numVal s.data.toList < 9223372036854775808) :
    Calls Tryz.prog 69 #[.string s] w fun e w' => e = .returned (.tuple #[.int .i64 (M.numVal s.data.toList), .nilIface]) ∧ Below w.heap.size w w' := by
  have hz := M.size_list s
  have h : Lib.atoiAll s.data.toList = .ok (M.numVal s.data.toList : Int) := by
    cases hl : s.data.toList with
    | nil => rw [hl] at hz; simp at hz; omega
    | cons c t => rw [hl] at hd hv; rw [M.atoi_dig c t hd, if_pos hv]
  refine (Tryz.strconv_Atoi_ok s (by omega) _ h w).mono ?_
  rintro e w' ⟨rfl, h | ⟨t, rfl⟩⟩
  · subst h; exact ⟨rfl, Below.refl _ _⟩
  · exact ⟨rfl, Lib.bytesWorld_below _ _ _⟩
theorem atoi_big (s : ByteArray) (w : World) (hw : Ready w) (hs : s.size ≤ 281474976710656) (hn : s.size ≠ 0) (hd : M.allDig s.data.toList) (hv : ¬ M.numVal s.data.toList < 9223372036854775808) :
    Calls Tryz.prog 69 #[.string s] w fun e w' => ∃ n N, e = .returned (.tuple #[.int .i64 n, .iface 118 (.pointer (some ⟨N, 0, none⟩))]) ∧ Below w.heap.size w w' := by
  have hz := M.size_list s
  have h : Lib.atoiAll s.data.toList = .range := by
    cases hl : s.data.toList with
    | nil => rw [hl] at hz; simp at hz; omega
    | cons c t => rw [hl] at hd hv; rw [M.atoi_dig c t hd, if_neg hv]
  obtain ⟨_, te, pe, hc⟩ := hw
  refine (Tryz.strconv_Atoi_range s hs h (.iface te pe) w hc (Or.inr ⟨te, pe, rfl⟩)).mono ?_
  rintro e w' ⟨N, rfl, _, _, hB⟩
  exact ⟨_, N, rfl, hB⟩


theorem nk_head (s : ByteArray) (h : 0 < s.size) : (s.data.toList.head? = some 48) ↔ (s[0].toNat : Int) = 48 := by
  cases s with
  | mk d =>
    cases d with
    | mk l =>
      cases l with
      | nil => exact absurd h (by decide)
      | cons c t => show (some c = some 48) ↔ ((c.toNat : Nat) : Int) = 48
                    constructor
                    · intro e; obtain rfl := Option.some.inj e; rfl
                    · intro e; rw [show c = 48 from UInt8.toNat_inj.1 (by show c.toNat = 48; omega)]
theorem nk_list (s : ByteArray) : (s.toList == [48]) = decide (s.data.toList = [48]) := by
  rw [ByteArray.toList_eq s, Bool.eq_iff_iff]; simp
theorem nk0_big (s : ByteArray) (h : (1000000000 : Int) < (M.numVal s.data.toList : Int)) : (0 : Int) = (M.numberKind s.data.toList : Nat) := by
  unfold M.numberKind; rw [if_pos (Or.inl (by omega))]; rfl
theorem nk0_z (s : ByteArray) (h : 0 < s.size) (h0 : (s[0].toNat : Int) = 48) (h1 : (!s.toList == [48]) = true) : (0 : Int) = (M.numberKind s.data.toList : Nat) := by
  rw [nk_list] at h1
  unfold M.numberKind; rw [if_pos (Or.inr ⟨(nk_head s h).2 h0, by simpa using h1⟩)]; rfl
theorem nk2_a (s : ByteArray) (h : (M.numVal s.data.toList : Int) ≤ 1000000000) (h1 : (!s.toList == [48]) = false) : (2 : Int) = (M.numberKind s.data.toList : Nat) := by
  rw [nk_list] at h1
  simp at h1
  unfold M.numberKind; rw [if_neg (by rintro (h2 | ⟨_, h2⟩); · omega
                                      · exact h2 h1)]; rfl
theorem nk2_b (s : ByteArray) (h : (M.numVal s.data.toList : Int) ≤ 1000000000) (h2 : 0 < s.size) (h1 : ¬ (s[0].toNat : Int) = 48) : (2 : Int) = (M.numberKind s.data.toList : Nat) := by
  unfold M.numberKind; rw [if_neg (by rintro (h3 | ⟨h3, _⟩); · omega
                                      · exact h1 ((nk_head s h2).1 h3))]; rfl

set_option maxHeartbeats 400000 in
set_option maxRecDepth 100000 in
theorem numberKind_any (s : ByteArray) (w : World) (hw : Ready w) (hs : s.size ≤ 281474976710656) (hn : s.size ≠ 0) (hd : M.allDig s.data.toList) :
    Calls Tryz.prog 62 #[.string s] w fun e w' => e = .returned (.int .u8 (M.numberKind s.data.toList)) ∧ Below w.heap.size w w' := by
  have h0 : 0 < s.size := by omega
  have hb : (s[0].toNat : Int) < 256 := by have := s[0].toNat_lt; omega
  by_cases hv : M.numVal s.data.toList < 9223372036854775808
  · have HC := Lib.hid (atoi_ok s w hs hn hd hv)
    by_cases hg : (1000000000 : Int) < (M.numVal s.data.toList : Int)
    · go_enter Tryz.func62, Tryz.ntmps62
      go_wp2_with fail
      refine HC.out.mono ?_
      rintro e w1 ⟨rfl, hB⟩
      go_wp2_with fail
      go_ret
      exact ⟨ret_int (nk0_big s hg), hB⟩
    · have hg' : (M.numVal s.data.toList : Int) ≤ 1000000000 := by omega
      clear hg
      by_cases hz : (s[0].toNat : Int) = 48
      · have hz' : ((s[0].toNat : Int) == 48) = true := by rw [hz]; rfl
        have HZ := Lib.hid hz
        clear hz
        cases hq : (!s.toList == [48])
        · go_enter Tryz.func62, Tryz.ntmps62
          go_wp2_with fail
          refine HC.out.mono ?_
          rintro e w1 ⟨rfl, hB⟩
          go_wp2_with fail
          go_ret
          exact ⟨ret_int (nk2_a s hg' hq), hB⟩
        · go_enter Tryz.func62, Tryz.ntmps62
          go_wp2_with fail
          refine HC.out.mono ?_
          rintro e w1 ⟨rfl, hB⟩
          go_wp2_with fail
          go_ret
          exact ⟨ret_int (nk0_z s h0 HZ.out hq), hB⟩
      · have hz' : ((s[0].toNat : Int) == 48) = false := by rw [beq_eq_false_iff_ne]; exact hz
        go_enter Tryz.func62, Tryz.ntmps62
        go_wp2_with fail
        refine HC.out.mono ?_
        rintro e w1 ⟨rfl, hB⟩
        go_wp2_with fail
        go_ret
        exact ⟨ret_int (nk2_b s hg' h0 hz), hB⟩
  · have HC := Lib.hid (atoi_big s w hw hs hn hd hv)
    have hg : (1000000000 : Int) < (M.numVal s.data.toList : Int) := by omega
    have HG := Lib.hid hg
    have HV := Lib.hid hv
    clear hg hv
    go_enter Tryz.func62, Tryz.ntmps62
    go_wp2_with fail
    refine HC.out.mono ?_
    rintro e w1 ⟨n, N, rfl, hB⟩
    go_wp2_with fail
    go_ret
    exact ⟨ret_int (nk0_big s HG.out), hB⟩

set_option maxHeartbeats 400000 in
set_option maxRecDepth 100000 in
theorem signKind_any (s : ByteArray) (w : World) :
    Calls Tryz.prog 64 #[.string s] w fun e w' => e = .returned (.int .u8 (M.signKind s.data.toList)) ∧ w = w' := by
  by_cases h : s.data.toList = []
  · have h1 : s.toList = [] := by rw [ByteArray.toList_eq s]; exact h
    have h2 : (!s.toList.isEmpty) = false := by rw [h1]; rfl
    have H := Lib.hid h
    clear h
    go_enter Tryz.func64, Tryz.ntmps64
    go_wp2_with fail
    go_ret
    exact ⟨ret_int (by unfold M.signKind; rw [if_pos H.out]; rfl), rfl⟩
  · have h1 : s.toList.isEmpty = false := by rw [ByteArray.toList_eq s]; simp at h ⊢; exact h
    have h2 : (!s.toList.isEmpty) = true := by rw [h1]; rfl
    go_enter Tryz.func64, Tryz.ntmps64
    go_wp2_with fail
    go_ret
    exact ⟨ret_int (by unfold M.signKind; rw [if_neg h]; rfl), rfl⟩

end Go.Proofs.YtamdcloahkacnaaGreatDoor
