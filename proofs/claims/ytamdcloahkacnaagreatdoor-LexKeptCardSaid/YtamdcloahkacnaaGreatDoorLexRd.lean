/- DERIVED. Contract of layer 1: Rescan, when both texts have tokens. -/
import Derived.Test.YtamdcloahkacnaaGreatDoorLexRc
namespace Go.Proofs.YtamdcloahkacnaaGreatDoor
open Go.RowKit Go.WideMaps Go.Maps Go.Shelf

/-- The cells that the region of Rescan reads. -/
def ReS (b : Nat) (x : M.Ed) (s u : ByteArray) (W W' : World) : Prop :=
  W'.cell? ⟨b, 0, none⟩ = some (.int .i64 x.from_) ∧ W'.cell? ⟨b, 1, none⟩ = some (.int .i64 x.to_) ∧ W'.cell? ⟨b, 2, none⟩ = some (.string x.put) ∧ W'.cell? ⟨b, 3, none⟩ = some (.string s) ∧ W'.cell? ⟨b, 4, none⟩ = some (.string u) ∧ Below W.heap.size W W'
theorem ReS.below {b : Nat} {x : M.Ed} {s u : ByteArray} {W W' W2 : World} (h : ReS b x s u W W') (hB : Below W'.heap.size W' W2) : ReS b x s u W W2 := by
  obtain ⟨h0, h1, h2, h3, h4, h5⟩ := h
  exact ⟨cell_below h0 hB, cell_below h1 hB, cell_below h2 hB, cell_below h3 hB, cell_below h4 hB, below2 h5 hB⟩

theorem LxSl.cut {w : World} {a : Addr} {l : List M.Lx} (h : LxSl w (some a) l) (hd tl : Nat) (hht : hd + tl ≤ l.length) : LxSl w (some (a.add (hd * 3))) ((l.take (l.length - tl)).drop hd) := by
  rcases h with rfl | ⟨b, off, e, h⟩
  · exact Or.inl (by simp)
  · injection e with e
    subst e
    refine Or.inr ⟨b, off + hd * 3, by simp [Addr.add], h.lt, ?_, ?_, ?_⟩ <;> intro i hi <;> simp only [List.length_drop, List.length_take] at hi <;> simp only [List.getElem_drop, List.getElem_take]
    · rw [← h.c0 (hd + i) (by omega)]; congr 2; omega
    · rw [← h.c1 (hd + i) (by omega)]; congr 2; omega
    · rw [← h.c2 (hd + i) (by omega)]; congr 2; omega
theorem LxSl.set3 {w : World} {n : Nat} {t : TypeId} {a : Option Addr} {l : List M.Lx} (hr : w.heap[n]? = some (.cells #[.int .i64 0, .int .i64 0, .slice none 0 0] t (0, 0))) (h : LxSl w a l) (v0 v1 v2 : Value) :
    LxSl (((w.setCell ⟨n, 0, none⟩ v0).setCell ⟨n, 1, none⟩ v1).setCell ⟨n, 2, none⟩ v2) a l := by
  rcases h with h | ⟨b, off, e, h⟩
  · exact Or.inl h
  by_cases hl : l.length = 0
  · exact Or.inl (List.length_eq_zero_iff.1 hl)
  have hne : b ≠ n := by
    rintro rfl
    have h0 := h.c0 0 (by omega)
    rw [Lib.cell_of_heap hr] at h0
    rcases off with _ | _ | _ | off <;> simp at h0
  refine Or.inr ⟨b, off, e, by simpa using h.lt, ?_, ?_, ?_⟩ <;> intro i hi
  · rw [World.cell?_setCell_far _ _ _ _ (Ne.symm hne), World.cell?_setCell_far _ _ _ _ (Ne.symm hne), World.cell?_setCell_far _ _ _ _ (Ne.symm hne)]; exact h.c0 i hi
  · rw [World.cell?_setCell_far _ _ _ _ (Ne.symm hne), World.cell?_setCell_far _ _ _ _ (Ne.symm hne), World.cell?_setCell_far _ _ _ _ (Ne.symm hne)]; exact h.c1 i hi
  · rw [World.cell?_setCell_far _ _ _ _ (Ne.symm hne), World.cell?_setCell_far _ _ _ _ (Ne.symm hne), World.cell?_setCell_far _ _ _ _ (Ne.symm hne)]; exact h.c2 i hi

set_option maxHeartbeats 4000000 in
set_option maxRecDepth 100000 in
theorem rescan_ok (s : ByteArray) (x : M.Ed) (w : World) (hw : Ready w) (hp : x.put.size ≤ 1000000) (h : (M.scan s.data.toList).2.2 = 0) (hx : M.isEdit s x) (h2 : (M.scan (M.after s x).data.toList).2.2 = 0) :
    Calls Tryz.prog 11 #[.string s, edV x] w (RePostN (M.rescan s x) w) := by
  have hsf := M.scan_fine s.data.toList
  have hsm : s.size ≤ 2500 := by rw [← M.size_list]; exact hsf.2.2 h
  have hsf2 := M.scan_fine (M.after s x).data.toList
  have hum : (M.after s x).size ≤ 2500 := by rw [← M.size_list]; exact hsf2.2.2 h2
  have hres : M.rescan s x = (⟨M.head x (M.scan s.data.toList).1 (M.scan (M.after s x).data.toList).1, M.tail x (((M.after s x).size : Int) - (s.size : Int)) (M.scan s.data.toList).1 (M.scan (M.after s x).data.toList).1, ((M.scan (M.after s x).data.toList).1.take ((M.scan (M.after s x).data.toList).1.length - M.tail x (((M.after s x).size : Int) - (s.size : Int)) (M.scan s.data.toList).1 (M.scan (M.after s x).data.toList).1)).drop (M.head x (M.scan s.data.toList).1 (M.scan (M.after s x).data.toList).1)⟩, 0, 0) := by
    unfold M.rescan; rw [if_neg (by rw [h]; simp), if_neg (by simpa using hx), if_neg (by rw [h2]; simp)]
  have hht := M.head_tail s x hx (M.scan s.data.toList).1 (M.scan (M.after s x).data.toList).1
  have hed : edtRes s x = .tuple #[edtV x s (M.after s x), .bool true] := by unfold edtRes; rw [if_pos hx]
  obtain ⟨u, hu⟩ : ∃ u, M.after s x = u := ⟨_, rfl⟩
  rw [hu] at hres hed h2 hht hum hsf2
  obtain ⟨l, p, c, hsc⟩ : ∃ l p c, M.scan s.data.toList = (l, p, c) := ⟨_, _, _, rfl⟩
  obtain ⟨l2, p2, c2, hsc2⟩ : ∃ l p c, M.scan u.data.toList = (l, p, c) := ⟨_, _, _, rfl⟩
  rw [hsc] at h hsf
  rw [hsc2] at h2 hsf2
  rw [hsc, hsc2] at hres hht
  dsimp only at h h2 hres hht hsf hsf2
  subst h h2
  obtain ⟨hd, hhd⟩ : ∃ hd, M.head x l l2 = hd := ⟨_, rfl⟩
  obtain ⟨tl, htl⟩ : ∃ tl, M.tail x ((u.size : Int) - (s.size : Int)) l l2 = tl := ⟨_, rfl⟩
  rw [hhd, htl] at hres hht
  have hll : l.length ≤ 900 := hsf.2.1
  have hll2 : l2.length ≤ 900 := hsf2.2.1
  have HF := Lib.hid hsf.1
  have HED := Lib.hid hed
  have HRES := Lib.hid hres
  have HS := Lib.hid hsc
  have HS2 := Lib.hid hsc2
  have HW := Lib.hid hw
  have HHD := Lib.hid hhd
  have HTL := Lib.hid htl
  clear hres hsc hsc2 hw hed hx hu hsf hsf2 hhd htl
  go_enter Tryz.func11, Tryz.ntmps11
  go_wp2_with fail
  refine (scan_any s _ (HW.out.below (belowA (below1 w _) _)) (by unfold maxLen; omega)).mono ?_
  rintro e w1 ⟨a1, k1, rfl, hk1, hn1, hs1, hB1⟩
  rw [HS.out] at hk1 hs1 ⊢
  obtain ⟨x0, x1, x2, hr, hBw, hz⟩ := re_cells hB1
  clear hB1
  dsimp only at hk1 hs1 ⊢
  have HL1 := Lib.hid hs1
  clear hs1
  go_wp2_with fail
  refine (edit_any s x w1 (by omega) (by omega)).mono ?_
  rintro e w2 ⟨rfl, hB2⟩
  rw [HED.out]
  have hr2 := (hB2.block (w.heap.size + 1) (by omega)).trans hr
  have hBw2 := below2 hBw hB2
  have HL2 := Lib.hid (HL1.out.below hB2)
  have hz2 : w.heap.size + 2 ≤ w2.heap.size := by have := hB2.size; omega
  have hlt : w.heap.size + 1 < w2.heap.size := by omega
  have hlt0 : w.heap.size < w2.heap.size := by omega
  clear hr hB2 hBw
  go_wp2_with fail
  refine (scan_any u _ (HW.out.below (belowA hBw2 _)) (by unfold maxLen; omega)).mono ?_
  rintro e w3 ⟨a3, k3, rfl, hk3, hn3, hs3, hB3⟩
  rw [HS2.out] at hk3 hs3 ⊢
  have hz3 : w2.heap.size + 1 ≤ w3.heap.size := by have := hB3.size; simp at this; omega
  have hr3 : w3.heap[w.heap.size + 1]? = some (.cells #[.int .i64 0, .int .i64 0, .slice none 0 0] 26 (0, 0)) := by
    rw [hB3.block _ (by simp; omega), Below.heap_alloc _ _ _ (by omega)]; exact hr2
  have HL3 := Lib.hid ((HL2.out.below (below1 w2 (.cells #[.int .i64 x.from_, .int .i64 x.to_, .string x.put, .string s, .string u] 50))).below hB3)
  have hBw3 : Below w.heap.size w w3 := (belowA hBw2 _).trans (hB3.mono (by simp; omega))
  dsimp only at hk3 hs3 ⊢
  have HN3 := Lib.hid hs3
  have e3 : w3.heap[w2.heap.size]? = some (.cells #[.int .i64 x.from_, .int .i64 x.to_, .string x.put, .string s, .string u] 50 (0, 0)) := by
    rw [hB3.block _ (by simp)]; exact (MapKept.heap_alloc w2 _).1
  have E0 : w3.cell? ⟨w2.heap.size, 0, none⟩ = some (.int .i64 x.from_) := by rw [Lib.cell_of_heap e3]; rfl
  have E1 : w3.cell? ⟨w2.heap.size, 1, none⟩ = some (.int .i64 x.to_) := by rw [Lib.cell_of_heap e3]; rfl
  have E2 : w3.cell? ⟨w2.heap.size, 2, none⟩ = some (.string x.put) := by rw [Lib.cell_of_heap e3]; rfl
  have E3 : w3.cell? ⟨w2.heap.size, 3, none⟩ = some (.string s) := by rw [Lib.cell_of_heap e3]; rfl
  have E4 : w3.cell? ⟨w2.heap.size, 4, none⟩ = some (.string u) := by rw [Lib.cell_of_heap e3]; rfl
  clear hr2 hB3 hs3 e3
  go_wp2_with fail
  have hD : Below w3.heap.size w3 w3.drew := (Below.refl _ _).drew
  have HC1 : Hid (∀ W', ReS w2.heap.size x s u w3 W' → Calls Tryz.prog 21 #[edtV x s u, .slice a1 l.length k1, .slice a3 l2.length k3] W' fun e w2' => e = .returned (.int .i64 hd) ∧ ReS w2.heap.size x s u w3 w2') :=
    Lib.hid fun W' h => (head_any x s u a1 k1 a3 k3 l l2 W' (by omega) (HL3.out.below h.2.2.2.2.2) (HN3.out.below h.2.2.2.2.2)).mono fun e w2 ⟨he, hB⟩ => ⟨by rw [he, HHD.out], h.below hB⟩
  have HC2 : Hid (∀ W', ReS w2.heap.size x s u w3 W' → Calls Tryz.prog 22 #[edtV x s u, .slice a1 l.length k1, .slice a3 l2.length k3] W' fun e w2' => e = .returned (.int .i64 tl) ∧ ReS w2.heap.size x s u w3 w2') :=
    Lib.hid fun W' h => (tail_any x s u a1 k1 a3 k3 l l2 W' (by omega) (by omega) (HL3.out.below h.2.2.2.2.2) (HN3.out.below h.2.2.2.2.2) (by omega) (by omega) (fun t ht => by have := HF.out t ht; unfold M.fine at this; omega)).mono fun e w2 ⟨he, hB⟩ => ⟨by rw [he, HTL.out], h.below hB⟩
  have hlt3 : w.heap.size + 1 < w3.heap.size := by omega
  clear x0 x1 x2 hz hz2 hz3 hBw2 hlt hlt0
  go_region_held3 (fun W' => W'.cell? ⟨w2.heap.size, 0, none⟩ = some (.int .i64 x.from_) ∧ W'.cell? ⟨w2.heap.size, 1, none⟩ = some (.int .i64 x.to_) ∧ W'.cell? ⟨w2.heap.size, 2, none⟩ = some (.string x.put) ∧ W'.cell? ⟨w2.heap.size, 3, none⟩ = some (.string s) ∧ W'.cell? ⟨w2.heap.size, 4, none⟩ = some (.string u) ∧ Below w3.heap.size w3 W')
    (first | go_keep | exact hS2 | exact hS1)
    (first
      | (go_at_call 21; refine (HC1.out _ (by refine ⟨?_, ?_, ?_, ?_, ?_, ?_⟩ <;> assumption)).mono ?_; rintro e w4 ⟨rfl, hS1⟩)
      | (go_at_call 22; refine (HC2.out _ (by exact hS1)).mono ?_; rintro e w5 ⟨rfl, hS2⟩))
  have hB5 := hS2.2.2.2.2.2
  have hr5 := (hB5.block (w.heap.size + 1) hlt3).trans hr3
  obtain ⟨⟨q0, q1, q2⟩, f0, f1, f2⟩ := re_res hr5
  have hlt5 : w.heap.size + 1 < w5.heap.size := by have := hB5.size; omega
  have hBw5 := below2 hBw3 hB5
  have HN5 := Lib.hid (HN3.out.below hB5)
  clear hS1 hS2 hr3 E0 E1 E2 E3 E4 hB5 HC1 HC2 hD
  have g1 : ((l2.length : Int) - (tl : Int)) = ((l2.length - tl : Nat) : Int) := by omega
  rcases a3 with _ | a3
  · have hk0 := hn3 rfl
    subst hk0
    have h0 : l2.length = 0 := by omega
    have h1 : hd = 0 := by omega
    have h2 : tl = 0 := by omega
    subst h1 h2
    have HR5 := Lib.hid hr5
    clear hr5
    go_wp2_with fail
    refine bodyPost_ret (v := .tuple #[.agg #[.int .i64 0, .int .i64 0, .slice none 0 0], .int .i64 0, .int .i64 0]) (by simp [results, Tryz.results11, go_sem, q0, q1, q2]) rfl ?_
    refine ⟨none, 0, ?_, fun _ => rfl, ?_, below3 hBw5 _ (by omega) _ _ _⟩
    · rw [HRES.out]; simp [h0]
    · rw [HRES.out]; refine Or.inl ?_; simp; exact List.length_eq_zero_iff.1 h0
  · clear hn3
    have HR5 := Lib.hid hr5
    clear hr5
    have hlen : (List.drop hd (List.take (l2.length - tl) l2)).length = l2.length - tl - hd := by simp only [List.length_drop, List.length_take]; omega
    have HLEN := Lib.hid hlen
    clear hlen
    go_wp2_with fail
    · refine bodyPost_ret (v := .tuple #[.agg #[.int .i64 hd, .int .i64 tl, .slice (some a3) (l2.length - tl - hd) 0], .int .i64 0, .int .i64 0]) (by simp [results, Tryz.results11, go_sem, q0, q1, q2]) rfl ?_
      refine ⟨some a3, 0, ?_, (fun h => by cases h), ?_, below3 hBw5 _ (by omega) _ _ _⟩
      · rw [HRES.out]; simp [HLEN.out]
      · rw [HRES.out]; exact Or.inl (List.length_eq_zero_iff.1 (by rw [HLEN.out]; omega))
    · refine bodyPost_ret (v := .tuple #[.agg #[.int .i64 hd, .int .i64 tl, .slice (some (a3.add (hd * 3))) (l2.length - tl - hd) (k3 - hd)], .int .i64 0, .int .i64 0]) (by simp [results, Tryz.results11, go_sem, q0, q1, q2]) rfl ?_
      refine ⟨some (a3.add (hd * 3)), k3 - hd, ?_, (fun h => by cases h), ?_, below3 hBw5 _ (by omega) _ _ _⟩
      · rw [HRES.out]; simp [HLEN.out]
      · rw [HRES.out]; exact (HN5.out.cut hd tl hht).set3 HR5.out _ _ _

theorem rescan_all (s : ByteArray) (x : M.Ed) (w : World) (hw : Ready w) (hs : s.size ≤ maxLen) (hp : x.put.size ≤ 140737488355328) :
    Calls Tryz.prog 11 #[.string s, edV x] w (RePostN (M.rescan s x) w) := by
  by_cases h : (M.scan s.data.toList).2.2 = 0
  · by_cases hx : M.isEdit s x
    · by_cases h2 : (M.scan (M.after s x).data.toList).2.2 = 0
      · have h3 : (M.after s x).size ≤ 2500 := by rw [← M.size_list]; exact (M.scan_fine (M.after s x).data.toList).2.2 h2
        have h4 := M.after_size s x hx
        have h5 := hx.1
        have h6 := hx.2.1
        have h7 := hx.2.2
        exact rescan_ok s x w hw (by omega) h hx h2
      · exact rescan_e3 s x w hw hp h hx h2
    · exact rescan_e2 s x w hw hp h hx
  · exact rescan_e1 s x w hw hs h
theorem rescan_any (s : ByteArray) (x : M.Ed) (w : World) (hw : Ready w) (hs : s.size ≤ 1000000) (hp : x.put.size ≤ 1000000) :
    Calls Tryz.prog 11 #[.string s, edV x] w (RePost (M.rescan s x) w) :=
  (rescan_all s x w hw (by unfold maxLen; omega) (by omega)).mono fun _ _ h => h.weak

end Go.Proofs.YtamdcloahkacnaaGreatDoor
