/- DERIVED. Contracts of layer 1: the token that begins at a place. -/
import Derived.Test.YtamdcloahkacnaaGreatDoorLexF
import Derived.StillTailTactics
namespace Go.Proofs.YtamdcloahkacnaaGreatDoor
open Go.RowKit Go.WideMaps Go.Maps

/-- A token as a value, and as cells. -/
abbrev lxV (x : M.Lx) : Value := .agg #[.int .u8 x.kind, .string x.text, .int .i64 x.pos]
def tokRes : Option M.Lx → Value
  | some x => .tuple #[lxV x, .bool true]
  | none => .tuple #[.agg #[.int .u8 0, .string ⟨#[]⟩, .int .i64 0], .bool false]

theorem cells_cls2 (w : World) (x y : Nat) (t : TypeId) : ∀ i, (hi : i < [x, y].length) → (w.alloc (.cells #[.int .i64 x, .int .i64 y] t)).cell? ⟨w.heap.size, i, none⟩ = some (.int .i64 [x, y][i]) := fun i hi => by
  rw [World.cell?_alloc_at _ _ _ _ rfl]
  match i, hi with
  | 0, _ => rfl
  | 1, _ => rfl
theorem cells_cls1 (w : World) (x : Nat) (t : TypeId) : ∀ i, (hi : i < [x].length) → (w.alloc (.cells #[.int .i64 x] t)).cell? ⟨w.heap.size, i, none⟩ = some (.int .i64 [x][i]) := fun i hi => by
  rw [World.cell?_alloc_at _ _ _ _ rfl]
  match i, hi with
  | 0, _ => rfl

open Go in
theorem still_tail {P : Program} {id : Nat} {Q : Exit → Act → World → Prop} {a : Act} {w : World} {l : List Oper} (n : Nat) (hm : P.follows .mixedOrders = true) (hB : Region.lexTailB .any l.toArray n = true)
    (h : wpStill P l.toArray w.drew (fun a' => wpList P l.toArray Q (l.drop n) a' w.drew) (l.take n) a) : (Code.region id l.toArray true).wp P Q a w :=
  wp_region_still_tail n hm hB h

theorem sub_list (s : ByteArray) (a b : Nat) : (s.extract a b).data.toList = (s.data.toList.take b).drop a := by
  rw [ByteArray.data_extract]; simp [List.drop_take]

theorem token_eq (l : List UInt8) (k c : Nat) (t : List UInt8) (x : ByteArray) (hx : x.data.toList = t) (h : M.tokText l k = t) (h2 : M.tokKind l k = c) : M.token l k = if c = 0 then none else some ⟨c, x, k⟩ := by
  unfold M.token; rw [h, h2, ← hx, M.list_str]

theorem getD_at (s : ByteArray) (k : Nat) (hk : k < s.size) : s.data.toList.getD k 0 = s[k] := by
  rw [List.getD_eq_getElem?_getD, List.getElem?_eq_getElem (by rw [M.size_list]; exact hk)]; rfl
theorem tok_1 (s : ByteArray) (k n : Nat) (hk : k < s.size) (hc : M.cls s[k] = 1) (hn : M.behind [1, 2] s.data.toList k = n) :
    M.token s.data.toList k = if M.wordKind (s.extract k n).data.toList = 0 then none else some ⟨M.wordKind (s.extract k n).data.toList, s.extract k n, k⟩ := by
  have htx : M.tokText s.data.toList k = (s.extract k n).data.toList := by unfold M.tokText; simp only [getD_at s k hk, hc, hn, sub_list]
  have hkd : M.tokKind s.data.toList k = M.wordKind (s.extract k n).data.toList := by unfold M.tokKind; simp only [getD_at s k hk, hc, htx]
  exact token_eq _ _ _ _ _ rfl htx hkd
theorem tok_2 (s : ByteArray) (k n : Nat) (hk : k < s.size) (hc : M.cls s[k] = 2) (hn : M.behind [2] s.data.toList k = n) :
    M.token s.data.toList k = if M.numberKind (s.extract k n).data.toList = 0 then none else some ⟨M.numberKind (s.extract k n).data.toList, s.extract k n, k⟩ := by
  have htx : M.tokText s.data.toList k = (s.extract k n).data.toList := by unfold M.tokText; simp only [getD_at s k hk, hc, hn, sub_list]
  have hkd : M.tokKind s.data.toList k = M.numberKind (s.extract k n).data.toList := by unfold M.tokKind; simp only [getD_at s k hk, hc, htx]
  exact token_eq _ _ _ _ _ rfl htx hkd
theorem tok_0 (s : ByteArray) (k : Nat) (hk : k < s.size) (h1 : M.cls s[k] ≠ 1) (h2 : M.cls s[k] ≠ 2) :
    M.token s.data.toList k = if M.signKind (M.sign (s.data.toList.drop k)) = 0 then none else some ⟨M.signKind (M.sign (s.data.toList.drop k)), M.str (M.sign (s.data.toList.drop k)), k⟩ := by
  have htx : M.tokText s.data.toList k = M.sign (s.data.toList.drop k) := by
    unfold M.tokText; rw [getD_at s k hk]; split
    · exact absurd ‹_› h1
    · exact absurd ‹_› h2
    · rfl
  have hkd : M.tokKind s.data.toList k = M.signKind (M.sign (s.data.toList.drop k)) := by
    unfold M.tokKind; rw [getD_at s k hk, htx]; split
    · exact absurd ‹_› h1
    · exact absurd ‹_› h2
    · rfl
  exact token_eq _ _ _ _ _ (M.str_list _) htx hkd
theorem below3 {w w1 : World} (hB : Below w.heap.size w w1) (b : Nat) (h : w.heap.size ≤ b) (x y z : Value) : Below w.heap.size w (((w1.setCell ⟨b, 0, none⟩ x).setCell ⟨b, 1, none⟩ y).setCell ⟨b, 2, none⟩ z) :=
  ((hB.setCell (p := ⟨b, 0, none⟩) h _).setCell (p := ⟨b, 1, none⟩) h _).setCell (p := ⟨b, 2, none⟩) h _

set_option maxHeartbeats 1000000 in
set_option maxRecDepth 100000 in
theorem token_word (bm bs : Nat) (s : ByteArray) (k : Nat) (w : World) (hr : RdAt w bm bs) (hs : s.size ≤ 281474976710656) (hk : k < s.size) (hc : M.cls s[k] = 1) :
    Calls Tryz.prog 47 #[rdV bm bs, .string s, .int .i64 k] w fun e w' => e = .returned (tokRes (M.token s.data.toList k)) ∧ Below w.heap.size w w' := by
  obtain ⟨n, hn⟩ : ∃ n, M.behind [1, 2] s.data.toList k = n := ⟨_, rfl⟩
  have hn1 : k ≤ n := hn ▸ M.behind_ge _ _ _
  have hn2 : n ≤ s.size := by rw [← M.size_list, ← hn]; exact M.behind_le _ _ _ (by rw [M.size_list]; omega)
  have htk := tok_1 s k n hk hc hn
  have HR := Lib.hid hr
  have HC := Lib.hid hc
  have HT := Lib.hid htk
  have HN := Lib.hid hn
  clear hr hc htk hn
  have hsm : s.size ≤ maxLen := by unfold maxLen; omega
  have hxm : (s.extract k n).size ≤ maxLen := by rw [ByteArray.size_extract]; omega
  have HXM := Lib.hid hxm
  clear hxm
  go_enter Tryz.func47, Tryz.ntmps47
  go_wp2_with fail
  refine (classOf_any _ _).mono ?_
  rintro e w1 ⟨rfl, rfl⟩
  rw [HC.out]
  go_wp2_with fail
  refine (behind_any s k _ [1, 2] _ hsm (by omega) (by decide) (by have := cells_cls2 ((w.alloc (.cells #[.map (some bm), .slice (some ⟨bs, 0, none⟩) 22 22] 59)).alloc (.cells #[.int .u8 0, .string ⟨#[]⟩, .int .i64 0] 42)) 1 2 82; simpa using this)).mono ?_
  rintro e w1 ⟨rfl, rfl⟩
  rw [HN.out]
  go_wp2_with fail
  refine (wordKind_any bm bs _ _ (HR.out.below ((((Below.refl _ _).alloc (Nat.le_refl _) _).alloc (by simp) _).alloc (by simp; omega) _)) HXM.out).mono ?_
  rintro e w1 ⟨rfl, hB⟩
  obtain ⟨c, hcc⟩ : ∃ c, M.wordKind (s.extract k n).data.toList = c := ⟨_, rfl⟩
  rw [hcc] at HT ⊢
  clear hcc
  obtain ⟨hcB, hfB⟩ := bcell hB
  have hBw := ((((Below.refl w.heap.size w).alloc (Nat.le_refl _) (.cells #[.map (some bm), .slice (some ⟨bs, 0, none⟩) 22 22] 59)).alloc (by simp) (.cells #[.int .u8 0, .string ⟨#[]⟩, .int .i64 0] 42)).alloc (by simp; omega) (.cells #[.int .i64 1, .int .i64 2] 82)).trans (hB.mono (by simp; omega))
  have hzw : w.heap.size + 3 ≤ w1.heap.size := by have := hB.size; simpa using this
  have HBW := Lib.hid hBw
  clear hBw
  by_cases hz : c = 0
  · subst hz
    go_wp2_with fail
    refine bodyPost_ret (v := tokRes none) (by simp [results, Tryz.results47, go_sem, hcB, tokRes]) rfl ⟨by rw [HT.out]; rfl, below3 HBW.out _ (by omega) _ _ _⟩
  · have hz' : ((c : Int) == 0) = false := by rw [beq_eq_false_iff_ne]; omega
    go_wp2_with fail
    refine bodyPost_ret (v := tokRes (some ⟨c, s.extract k n, k⟩)) (by simp [results, Tryz.results47, go_sem, hcB, tokRes]) rfl ⟨by rw [HT.out, if_neg hz], below3 HBW.out _ (by omega) _ _ _⟩

set_option maxHeartbeats 1000000 in
set_option maxRecDepth 100000 in
theorem token_num (bm bs : Nat) (s : ByteArray) (k : Nat) (w : World) (hr : RdAt w bm bs) (hw : Ready w) (hs : s.size ≤ 281474976710656) (hk : k < s.size) (hc : M.cls s[k] = 2) :
    Calls Tryz.prog 47 #[rdV bm bs, .string s, .int .i64 k] w fun e w' => e = .returned (tokRes (M.token s.data.toList k)) ∧ Below w.heap.size w w' := by
  obtain ⟨n, hn⟩ : ∃ n, M.behind [2] s.data.toList k = n := ⟨_, rfl⟩
  have hn1 : k ≤ n := hn ▸ M.behind_ge _ _ _
  have hn2 : n ≤ s.size := by rw [← M.size_list, ← hn]; exact M.behind_le _ _ _ (by rw [M.size_list]; omega)
  have htk := tok_2 s k n hk hc hn
  have HR := Lib.hid hr
  have HC := Lib.hid hc
  have HT := Lib.hid htk
  have HN := Lib.hid hn
  clear hr hc htk hn
  have hsm : s.size ≤ maxLen := by unfold maxLen; omega
  have hxm : (s.extract k n).size ≤ 281474976710656 := by rw [ByteArray.size_extract]; omega
  have hx0 : (s.extract k n).size ≠ 0 := by
    have := M.behind_gt [2] s.data.toList k (by rw [M.size_list]; exact hk) (by have := HC.out; rw [show s.data.toList[k]'(by rw [M.size_list]; exact hk) = s[k] from rfl, this]; rfl)
    rw [HN.out] at this
    rw [ByteArray.size_extract]; omega
  have hxd : M.allDig (s.extract k n).data.toList := fun c hc => by
    rw [sub_list, ← HN.out] at hc
    have := M.behind_in _ _ _ _ hc
    exact M.cls_dig c (by simpa using this)
  have HX0 := Lib.hid hx0
  have HXD := Lib.hid hxd
  have HW := Lib.hid hw
  clear hx0 hxd hw
  have HXM := Lib.hid hxm
  clear hxm
  go_enter Tryz.func47, Tryz.ntmps47
  go_wp2_with fail
  refine (classOf_any _ _).mono ?_
  rintro e w1 ⟨rfl, rfl⟩
  rw [HC.out]
  go_wp2_with fail
  refine (behind_any s k _ [2] _ hsm (by omega) (by decide) (by have := cells_cls1 ((w.alloc (.cells #[.map (some bm), .slice (some ⟨bs, 0, none⟩) 22 22] 59)).alloc (.cells #[.int .u8 0, .string ⟨#[]⟩, .int .i64 0] 42)) 2 82; simpa using this)).mono ?_
  rintro e w1 ⟨rfl, rfl⟩
  rw [HN.out]
  go_wp2_with fail
  refine (numberKind_any _ _ (HW.out.below ((((Below.refl _ _).alloc (Nat.le_refl _) _).alloc (by simp) _).alloc (by simp; omega) _)) HXM.out HX0.out HXD.out).mono ?_
  rintro e w1 ⟨rfl, hB⟩
  obtain ⟨c, hcc⟩ : ∃ c, M.numberKind (s.extract k n).data.toList = c := ⟨_, rfl⟩
  rw [hcc] at HT ⊢
  clear hcc
  obtain ⟨hcB, hfB⟩ := bcell hB
  have hBw := ((((Below.refl w.heap.size w).alloc (Nat.le_refl _) (.cells #[.map (some bm), .slice (some ⟨bs, 0, none⟩) 22 22] 59)).alloc (by simp) (.cells #[.int .u8 0, .string ⟨#[]⟩, .int .i64 0] 42)).alloc (by simp; omega) (.cells #[.int .i64 2] 82)).trans (hB.mono (by simp; omega))
  have hzw : w.heap.size + 3 ≤ w1.heap.size := by have := hB.size; simpa using this
  have HBW := Lib.hid hBw
  clear hBw
  by_cases hz : c = 0
  · subst hz
    go_wp2_with fail
    refine bodyPost_ret (v := tokRes none) (by simp [results, Tryz.results47, go_sem, hcB, tokRes]) rfl ⟨by rw [HT.out]; rfl, below3 HBW.out _ (by omega) _ _ _⟩
  · have hz' : ((c : Int) == 0) = false := by rw [beq_eq_false_iff_ne]; omega
    go_wp2_with fail
    refine bodyPost_ret (v := tokRes (some ⟨c, s.extract k n, k⟩)) (by simp [results, Tryz.results47, go_sem, hcB, tokRes]) rfl ⟨by rw [HT.out, if_neg hz], below3 HBW.out _ (by omega) _ _ _⟩

set_option maxHeartbeats 1000000 in
set_option maxRecDepth 100000 in
theorem token_sign (bm bs : Nat) (s : ByteArray) (k : Nat) (w : World) (hr : RdAt w bm bs) (hs : s.size ≤ 281474976710656) (hk : k < s.size) (h1 : M.cls s[k] ≠ 1) (h2 : M.cls s[k] ≠ 2) :
    Calls Tryz.prog 47 #[rdV bm bs, .string s, .int .i64 k] w fun e w' => e = .returned (tokRes (M.token s.data.toList k)) ∧ Below w.heap.size w w' := by
  have htk := tok_0 s k hk h1 h2
  have hsub : (s.extract k s.size).data.toList = s.data.toList.drop k := by rw [sub_list, List.take_of_length_le (by rw [M.size_list]; exact Nat.le_refl _)]
  obtain ⟨m, hm⟩ : ∃ m, M.cls s[k] = m := ⟨_, rfl⟩
  have b1 : ((m : Int) == 1) = false := by rw [beq_eq_false_iff_ne]; omega
  have b2 : ((m : Int) == 2) = false := by rw [beq_eq_false_iff_ne]; omega
  have HR := Lib.hid hr
  have HC := Lib.hid hm
  have HT := Lib.hid htk
  have HS := Lib.hid hsub
  clear hr hm htk hsub h1 h2
  have hsm : s.size ≤ maxLen := by unfold maxLen; omega
  have hk' : k ≤ s.size := by omega
  go_enter Tryz.func47, Tryz.ntmps47
  go_wp2_with fail
  refine (classOf_any _ _).mono ?_
  rintro e w1 ⟨rfl, rfl⟩
  rw [HC.out]
  go_wp2_with fail
  refine still_tail 4 (by kernel_rfl) (by kernel_rfl) ?_
  simp only [List.take_succ_cons, List.take_zero, List.drop_succ_cons, List.drop_zero]
  repeat still_step
  refine wpStill_nil ?_
  go_wp2_with fail
  refine (sign_any bm bs _ _ (HR.out.below (((Below.refl _ _).alloc (Nat.le_refl _) _).alloc (by simp) _).drew)).mono ?_
  rintro e w1 ⟨rfl, hB⟩
  rw [HS.out]
  obtain ⟨g, hg⟩ : ∃ g, M.sign (s.data.toList.drop k) = g := ⟨_, rfl⟩
  rw [hg] at HT ⊢
  clear hg
  go_wp2_with fail
  refine (signKind_any _ _).mono ?_
  rintro e w2 ⟨rfl, rfl⟩
  rw [M.str_list]
  obtain ⟨c, hcc⟩ : ∃ c, M.signKind g = c := ⟨_, rfl⟩
  rw [hcc] at HT ⊢
  clear hcc
  obtain ⟨hcB, hfB⟩ := bcell hB
  have hBw := (((Below.refl w.heap.size w).alloc (Nat.le_refl _) (.cells #[.map (some bm), .slice (some ⟨bs, 0, none⟩) 22 22] 59)).alloc (by simp) (.cells #[.int .u8 0, .string ⟨#[]⟩, .int .i64 0] 42)).drew.trans (hB.mono (by simp; omega))
  have hzw : w.heap.size + 2 ≤ w1.heap.size := by have := hB.size; simpa using this
  have HBW := Lib.hid hBw
  clear hBw
  by_cases hz : c = 0
  · subst hz
    go_wp2_with fail
    refine bodyPost_ret (v := tokRes none) (by simp [results, Tryz.results47, go_sem, hcB, tokRes]) rfl ⟨by rw [HT.out]; rfl, below3 HBW.out _ (by omega) _ _ _⟩
  · have hz' : ((c : Int) == 0) = false := by rw [beq_eq_false_iff_ne]; omega
    go_wp2_with fail
    refine bodyPost_ret (v := tokRes (some ⟨c, M.str g, k⟩)) (by simp [results, Tryz.results47, go_sem, hcB, tokRes]) rfl ⟨by rw [HT.out, if_neg hz], below3 HBW.out _ (by omega) _ _ _⟩

theorem token_any (bm bs : Nat) (s : ByteArray) (k : Nat) (w : World) (hr : RdAt w bm bs) (hw : Ready w) (hs : s.size ≤ 281474976710656) (hk : k < s.size) :
    Calls Tryz.prog 47 #[rdV bm bs, .string s, .int .i64 k] w fun e w' => e = .returned (tokRes (M.token s.data.toList k)) ∧ Below w.heap.size w w' := by
  by_cases h1 : M.cls s[k] = 1
  · exact token_word bm bs s k w hr hs hk h1
  · by_cases h2 : M.cls s[k] = 2
    · exact token_num bm bs s k w hr hw hs hk h2
    · exact token_sign bm bs s k w hr hs hk h1 h2

end Go.Proofs.YtamdcloahkacnaaGreatDoor
