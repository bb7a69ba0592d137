/- DERIVED. Contracts of layer 1: apply, Apply. -/
import Derived.Test.YtamdcloahkacnaaGreatDoorLexSb
namespace Go.Proofs.YtamdcloahkacnaaGreatDoor
open Go.RowKit Go.WideMaps Go.Maps Go.Shelf

namespace M
def appE (s : ByteArray) (x : Ed) : Nat :=
  if (fault s.data.toList).2 ≠ 0 then (fault s.data.toList).2 else if ¬ isEdit s x then 3 else (fault (after s x).data.toList).2
end M
def edtZ : Value := .agg #[.int .i64 0, .int .i64 0, .string ⟨#[]⟩, .string ⟨#[]⟩, .string ⟨#[]⟩]
def appV (s : ByteArray) (x : M.Ed) : Value := if M.appE s x = 0 then edtV x s (M.after s x) else edtZ

theorem below5 {w w1 : World} (hB : Below w.heap.size w w1) (b : Nat) (h : w.heap.size ≤ b) (x y z u v : Value) : Below w.heap.size w (((((w1.setCell ⟨b, 0, none⟩ x).setCell ⟨b, 1, none⟩ y).setCell ⟨b, 2, none⟩ z).setCell ⟨b, 3, none⟩ u).setCell ⟨b, 4, none⟩ v) :=
  ((below3 hB b h x y z).setCell (p := ⟨b, 3, none⟩) h _).setCell (p := ⟨b, 4, none⟩) h _

/-- The cells of the two boxes of apply. -/
theorem ap_cells {w w1 : World} {x : M.Ed} {t1 t2 : TypeId} (hB : Below ((w.alloc (.cells #[.int .i64 x.from_, .int .i64 x.to_, .string x.put] t1)).alloc (.cells #[.int .i64 0, .int .i64 0, .string ⟨#[]⟩, .string ⟨#[]⟩, .string ⟨#[]⟩] t2)).heap.size ((w.alloc (.cells #[.int .i64 x.from_, .int .i64 x.to_, .string x.put] t1)).alloc (.cells #[.int .i64 0, .int .i64 0, .string ⟨#[]⟩, .string ⟨#[]⟩, .string ⟨#[]⟩] t2)) w1) :
    w1.cell? ⟨w.heap.size, 0, none⟩ = some (.int .i64 x.from_) ∧ w1.cell? ⟨w.heap.size, 1, none⟩ = some (.int .i64 x.to_) ∧ w1.cell? ⟨w.heap.size, 2, none⟩ = some (.string x.put) ∧
    w1.heap[w.heap.size + 1]? = some (.cells #[.int .i64 0, .int .i64 0, .string ⟨#[]⟩, .string ⟨#[]⟩, .string ⟨#[]⟩] t2 (0, 0)) ∧ Below w.heap.size w w1 ∧ w.heap.size + 2 ≤ w1.heap.size := by
  have hz := hB.size
  simp at hz
  have e0 : w1.heap[w.heap.size]? = some (.cells #[.int .i64 x.from_, .int .i64 x.to_, .string x.put] t1 (0, 0)) := by
    rw [hB.block _ (by simp; omega), Below.heap_alloc _ _ _ (by simp)]; exact (MapKept.heap_alloc w _).1
  refine ⟨by rw [Lib.cell_of_heap e0]; rfl, by rw [Lib.cell_of_heap e0]; rfl, by rw [Lib.cell_of_heap e0]; rfl, ?_, (belowA (below1 w _) _).trans (hB.mono (by simp; omega)), by omega⟩
  rw [hB.block _ (by simp)]
  have := (MapKept.heap_alloc (w.alloc (.cells #[.int .i64 x.from_, .int .i64 x.to_, .string x.put] t1)) (.cells #[.int .i64 0, .int .i64 0, .string ⟨#[]⟩, .string ⟨#[]⟩, .string ⟨#[]⟩] t2)).1
  simpa using this
theorem ap_res {w1 : World} {n : Nat} {t : TypeId} {a b c d e : Value} (h : w1.heap[n]? = some (.cells #[a, b, c, d, e] t (0, 0))) :
    (w1.cell? ⟨n, 0, none⟩ = some a ∧ w1.cell? ⟨n, 1, none⟩ = some b ∧ w1.cell? ⟨n, 2, none⟩ = some c ∧ w1.cell? ⟨n, 3, none⟩ = some d ∧ w1.cell? ⟨n, 4, none⟩ = some e) ∧
    (w1.frozen? ⟨n, 0, none⟩ = false ∧ w1.frozen? ⟨n, 1, none⟩ = false ∧ w1.frozen? ⟨n, 2, none⟩ = false ∧ w1.frozen? ⟨n, 3, none⟩ = false ∧ w1.frozen? ⟨n, 4, none⟩ = false) :=
  ⟨⟨by rw [Lib.cell_of_heap h]; rfl, by rw [Lib.cell_of_heap h]; rfl, by rw [Lib.cell_of_heap h]; rfl, by rw [Lib.cell_of_heap h]; rfl, by rw [Lib.cell_of_heap h]; rfl⟩, Lib.frozen_of_heap h 0, Lib.frozen_of_heap h 1, Lib.frozen_of_heap h 2, Lib.frozen_of_heap h 3, Lib.frozen_of_heap h 4⟩
theorem set5_cells {w : World} {n : Nat} {t : TypeId} {x0 x1 x2 x3 x4 : Value} (h : w.heap[n]? = some (.cells #[x0, x1, x2, x3, x4] t (0, 0))) (hlt : n < w.heap.size) (a b c d e : Value) (o : Obj) :
    ((((((w.setCell ⟨n, 0, none⟩ a).setCell ⟨n, 1, none⟩ b).setCell ⟨n, 2, none⟩ c).setCell ⟨n, 3, none⟩ d).setCell ⟨n, 4, none⟩ e).alloc o).cell? ⟨n, 0, none⟩ = some a ∧
    ((((((w.setCell ⟨n, 0, none⟩ a).setCell ⟨n, 1, none⟩ b).setCell ⟨n, 2, none⟩ c).setCell ⟨n, 3, none⟩ d).setCell ⟨n, 4, none⟩ e).alloc o).cell? ⟨n, 1, none⟩ = some b ∧
    ((((((w.setCell ⟨n, 0, none⟩ a).setCell ⟨n, 1, none⟩ b).setCell ⟨n, 2, none⟩ c).setCell ⟨n, 3, none⟩ d).setCell ⟨n, 4, none⟩ e).alloc o).cell? ⟨n, 2, none⟩ = some c ∧
    ((((((w.setCell ⟨n, 0, none⟩ a).setCell ⟨n, 1, none⟩ b).setCell ⟨n, 2, none⟩ c).setCell ⟨n, 3, none⟩ d).setCell ⟨n, 4, none⟩ e).alloc o).cell? ⟨n, 3, none⟩ = some d ∧
    ((((((w.setCell ⟨n, 0, none⟩ a).setCell ⟨n, 1, none⟩ b).setCell ⟨n, 2, none⟩ c).setCell ⟨n, 3, none⟩ d).setCell ⟨n, 4, none⟩ e).alloc o).cell? ⟨n, 4, none⟩ = some e := by
  obtain ⟨⟨q0, q1, q2, q3, q4⟩, _⟩ := ap_res h
  refine ⟨?_, ?_, ?_, ?_, ?_⟩ <;> rw [World.cell?_alloc_lt _ _ _ (by simpa using hlt)] <;> simp [go_sem, q0, q1, q2, q3, q4]

def ApPost (s : ByteArray) (x : M.Ed) (w : World) (e : Ending) (w' : World) : Prop := e = .returned (.tuple #[appV s x, .int .i64 (M.appE s x)]) ∧ Below w.heap.size w w'

set_option maxHeartbeats 1000000 in
set_option maxRecDepth 100000 in
theorem apply_e1 (s : ByteArray) (x : M.Ed) (w : World) (hs : s.size ≤ maxLen) (h : (M.fault s.data.toList).2 ≠ 0) :
    Calls Tryz.prog 27 #[.string s, edV x] w (ApPost s x w) := by
  have hE : M.appE s x = (M.fault s.data.toList).2 := by unfold M.appE; rw [if_pos h]
  have hV : appV s x = edtZ := by unfold appV; rw [if_neg (by rw [hE]; exact h)]
  obtain ⟨p, c, hf⟩ : ∃ p c, M.fault s.data.toList = (p, c) := ⟨_, _, rfl⟩
  rw [hf] at h hE
  dsimp only at h hE
  have HE := Lib.hid hE
  have HV := Lib.hid hV
  have HF := Lib.hid hf
  have h3 : ((c : Int) == 0) = false := by rw [beq_eq_false_iff_ne]; omega
  have h4 : ((c : Int) != 0) = true := by rw [bne_iff_ne]; omega
  clear hE hV hf
  go_enter Tryz.func27, Tryz.ntmps27
  go_wp2_with fail
  refine (fault_any s _ hs).mono ?_
  rintro e w1 ⟨rfl, hB1⟩
  rw [HF.out]
  obtain ⟨_, _, _, hr, hBw, hz⟩ := ap_cells hB1
  obtain ⟨⟨q0, q1, q2, q3, q4⟩, f0, f1, f2, f3, f4⟩ := ap_res hr
  have hlt : w.heap.size + 1 < w1.heap.size := by omega
  clear hB1 hr
  dsimp only
  go_wp2_with fail
  refine bodyPost_ret (v := .tuple #[edtZ, .int .i64 c]) (by simp [results, Tryz.results27, go_sem, q0, q1, q2, q3, q4, edtZ]) rfl ?_
  exact ⟨by rw [HE.out, HV.out], below5 hBw _ (by omega) _ _ _ _ _⟩

set_option maxHeartbeats 1000000 in
set_option maxRecDepth 100000 in
theorem apply_e2 (s : ByteArray) (x : M.Ed) (w : World) (hp : x.put.size ≤ 140737488355328) (h : (M.fault s.data.toList).2 = 0) (hx : ¬ M.isEdit s x) :
    Calls Tryz.prog 27 #[.string s, edV x] w (ApPost s x w) := by
  have hsm : s.size ≤ 2500 := by rw [← M.size_list]; exact M.fault_small s.data.toList h
  have hE : M.appE s x = 3 := by unfold M.appE; rw [if_neg (by rw [h]; simp), if_pos hx]
  have hV : appV s x = edtZ := by unfold appV; rw [if_neg (by rw [hE]; simp)]
  obtain ⟨p, c, hf⟩ : ∃ p c, M.fault s.data.toList = (p, c) := ⟨_, _, rfl⟩
  rw [hf] at h
  dsimp only at h
  subst h
  have hed : edtRes s x = .tuple #[edtV ⟨0, 0, ⟨#[]⟩⟩ ⟨#[]⟩ ⟨#[]⟩, .bool false] := by unfold edtRes; rw [if_neg hx]
  have HED := Lib.hid hed
  have HE := Lib.hid hE
  have HV := Lib.hid hV
  have HF := Lib.hid hf
  clear hE hV hf hed hx
  go_enter Tryz.func27, Tryz.ntmps27
  go_wp2_with fail
  refine (fault_any s _ (by unfold maxLen; omega)).mono ?_
  rintro e w1 ⟨rfl, hB1⟩
  rw [HF.out]
  obtain ⟨x0, x1, x2, hr, hBw, hz⟩ := ap_cells hB1
  clear hB1
  dsimp only
  go_wp2_with fail
  refine (edit_any s x w1 (by omega) hp).mono ?_
  rintro e w2 ⟨rfl, hB2⟩
  rw [HED.out]
  have hr2 := (hB2.block (w.heap.size + 1) (by omega)).trans hr
  have HR2 := Lib.hid hr2
  obtain ⟨⟨q0, q1, q2, q3, q4⟩, f0, f1, f2, f3, f4⟩ := ap_res hr2
  have hBw2 := below2 hBw hB2
  have hz2 : w.heap.size + 2 ≤ w2.heap.size := by have := hB2.size; omega
  have hlt : w.heap.size + 1 < w2.heap.size := by omega
  have hlt0 : w.heap.size < w2.heap.size := by omega
  clear hr hr2 hB2 hBw
  go_wp2_with fail
  obtain ⟨r0, r1, r2, r3, r4⟩ := set5_cells HR2.out hlt (.int .i64 0) (.int .i64 0) (.string ⟨#[]⟩) (.string ⟨#[]⟩) (.string ⟨#[]⟩) (.cells #[.int .i64 0, .int .i64 0, .string ⟨#[]⟩, .string ⟨#[]⟩, .string ⟨#[]⟩] 50)
  refine bodyPost_ret (v := .tuple #[edtZ, .int .i64 3]) (by simp [results, Tryz.results27, go_sem, r0, r1, r2, r3, r4, edtZ]) rfl ?_
  exact ⟨by rw [HE.out, HV.out]; rfl, belowA (below5 hBw2 _ (by omega) _ _ _ _ _) _⟩

set_option maxHeartbeats 1000000 in
set_option maxRecDepth 100000 in
theorem apply_ok (s : ByteArray) (x : M.Ed) (w : World) (hp : x.put.size ≤ 140737488355328) (h : (M.fault s.data.toList).2 = 0) (hx : M.isEdit s x) :
    Calls Tryz.prog 27 #[.string s, edV x] w (ApPost s x w) := by
  have hsm : s.size ≤ 2500 := by rw [← M.size_list]; exact M.fault_small s.data.toList h
  have hau := M.after_size s x hx
  have hE : M.appE s x = (M.fault (M.after s x).data.toList).2 := by unfold M.appE; rw [if_neg (by rw [h]; simp), if_neg (by simpa using hx)]
  have hV : appV s x = if (M.fault (M.after s x).data.toList).2 = 0 then edtV x s (M.after s x) else edtZ := by unfold appV; rw [hE]
  have hed : edtRes s x = .tuple #[edtV x s (M.after s x), .bool true] := by unfold edtRes; rw [if_pos hx]
  obtain ⟨u, hu⟩ : ∃ u, M.after s x = u := ⟨_, rfl⟩
  rw [hu] at hE hV hed hau
  obtain ⟨p, c, hf⟩ : ∃ p c, M.fault s.data.toList = (p, c) := ⟨_, _, rfl⟩
  obtain ⟨p2, c2, hf2⟩ : ∃ p c, M.fault u.data.toList = (p, c) := ⟨_, _, rfl⟩
  rw [hf] at h
  rw [hf2] at hE hV
  dsimp only at h hE hV
  subst h
  have hus : u.size ≤ maxLen := by have := hx.1; have := hx.2.1; have := hx.2.2; unfold maxLen; omega
  have HED := Lib.hid hed
  have HE := Lib.hid hE
  have HV := Lib.hid hV
  have HF := Lib.hid hf
  have HF2 := Lib.hid hf2
  have HUS := Lib.hid hus
  clear hE hV hf hf2 hed hx hau hu hus
  go_enter Tryz.func27, Tryz.ntmps27
  go_wp2_with fail
  refine (fault_any s _ (by unfold maxLen; omega)).mono ?_
  rintro e w1 ⟨rfl, hB1⟩
  rw [HF.out]
  obtain ⟨x0, x1, x2, hr, hBw, hz⟩ := ap_cells hB1
  clear hB1
  dsimp only
  go_wp2_with fail
  refine (edit_any s x w1 (by omega) hp).mono ?_
  rintro e w2 ⟨rfl, hB2⟩
  rw [HED.out]
  have hr2 := (hB2.block (w.heap.size + 1) (by omega)).trans hr
  have hBw2 := below2 hBw hB2
  have hz2 : w.heap.size + 2 ≤ w2.heap.size := by have := hB2.size; omega
  have hlt : w.heap.size + 1 < w2.heap.size := by omega
  have hlt0 : w.heap.size < w2.heap.size := by omega
  clear hr hB2 hBw
  go_wp2_with fail
  refine (fault_any u _ HUS.out).mono ?_
  rintro e w3 ⟨rfl, hB3⟩
  rw [HF2.out]
  have hz3 : w2.heap.size + 1 ≤ w3.heap.size := by have := hB3.size; simp at this; omega
  have hr3 : w3.heap[w.heap.size + 1]? = some (.cells #[.int .i64 0, .int .i64 0, .string ⟨#[]⟩, .string ⟨#[]⟩, .string ⟨#[]⟩] 50 (0, 0)) := by
    rw [hB3.block _ (by simp; omega), Below.heap_alloc _ _ _ (by omega)]; exact hr2
  have e3 : w3.heap[w2.heap.size]? = some (.cells #[.int .i64 x.from_, .int .i64 x.to_, .string x.put, .string s, .string u] 50 (0, 0)) := by
    rw [hB3.block _ (by simp)]; exact (MapKept.heap_alloc w2 _).1
  obtain ⟨⟨q0, q1, q2, q3, q4⟩, f0, f1, f2, f3, f4⟩ := ap_res hr3
  obtain ⟨⟨E0, E1, E2, E3, E4⟩, _⟩ := ap_res e3
  have hlt3 : w.heap.size + 1 < w3.heap.size := by omega
  have hlt4 : w2.heap.size < w3.heap.size := by omega
  have hBw3 : Below w.heap.size w w3 := (belowA hBw2 _).trans (hB3.mono (by simp; omega))
  clear hr2 hr3 e3 hB3 hBw2
  dsimp only
  by_cases hc : c2 = 0
  · subst hc
    go_wp2_with fail
    refine bodyPost_ret (v := .tuple #[edtV x s u, .int .i64 0]) (by simp [results, Tryz.results27, go_sem, q0, q1, q2, q3, q4]) rfl ?_
    exact ⟨by rw [HE.out, HV.out]; rfl, below5 hBw3 _ (by omega) _ _ _ _ _⟩
  · have h3 : ((c2 : Int) == 0) = false := by rw [beq_eq_false_iff_ne]; omega
    have h4 : ((c2 : Int) != 0) = true := by rw [bne_iff_ne]; omega
    go_wp2_with fail
    refine bodyPost_ret (v := .tuple #[edtZ, .int .i64 c2]) (by simp [results, Tryz.results27, go_sem, q0, q1, q2, q3, q4, edtZ]) rfl ?_
    exact ⟨by rw [HE.out, HV.out, if_neg hc], below5 hBw3 _ (by omega) _ _ _ _ _⟩

theorem apply_any (s : ByteArray) (x : M.Ed) (w : World) (hs : s.size ≤ maxLen) (hp : x.put.size ≤ 140737488355328) :
    Calls Tryz.prog 27 #[.string s, edV x] w (ApPost s x w) := by
  by_cases h : (M.fault s.data.toList).2 = 0
  · by_cases hx : M.isEdit s x
    · exact apply_ok s x w hp h hx
    · exact apply_e2 s x w hp h hx
  · exact apply_e1 s x w hs h

end Go.Proofs.YtamdcloahkacnaaGreatDoor
