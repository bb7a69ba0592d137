/- Texts of one's own, joined: OrdDj. -/
import Derived.Test.YtnhnjfoboepffaaGr44
namespace Go.Proofs.Ytnhnjfoboepffaa
open Go.RowKit

/-- No table. -/
def M.tz : M.Tb := ⟨⟨#[]⟩, [], [], []⟩
abbrev pz : Tp := ⟨none, 0, none, 0, none, 0⟩
theorem tz_in (w : World) : TbIn w M.tz pz := ⟨Or.inl rfl, Or.inl rfl, Or.inl rfl, fun _ => rfl, fun _ => rfl, fun _ => rfl, Nat.le_refl _, Nat.le_refl _, Nat.le_refl _⟩
/-- What Slim comes to. -/
def SlimPost (t : M.Tb) (w : World) (e : Ending) (w' : World) : Prop :=
  ((¬ M.form t ∧ e = .returned (.tuple #[tbV M.tz pz, .int .i64 4])) ∨ (M.form t ∧ (M.brk t).1 ≠ 0 ∧ e = .returned (.tuple #[tbV M.tz pz, .int .i64 12])) ∨
    (M.lat t ∧ ∃ p', e = .returned (.tuple #[tbV (M.slm t) p', .int .i64 0]) ∧ TbIn w' (M.slm t) p')) ∧ Below w.heap.size w w'
theorem sp_1 {t : M.Tb} {w w' : World} (h : ¬ M.form t) (hB : Below w.heap.size w w') : SlimPost t w (.returned (.tuple #[tbV M.tz pz, .int .i64 4])) w' := ⟨Or.inl ⟨h, rfl⟩, hB⟩
theorem sp_2 {t : M.Tb} {w w' : World} (h : M.form t) (hk : (M.brk t).1 ≠ 0) (hB : Below w.heap.size w w') : SlimPost t w (.returned (.tuple #[tbV M.tz pz, .int .i64 12])) w' := ⟨Or.inr (Or.inl ⟨h, hk, rfl⟩), hB⟩
theorem sp_3 {t : M.Tb} {w w' : World} {p' : Tp} (h : M.lat t) (ht : TbIn w' (M.slm t) p') (hB : Below w.heap.size w w') : SlimPost t w (.returned (.tuple #[tbV (M.slm t) p', .int .i64 0])) w' := ⟨Or.inr (Or.inr ⟨h, p', rfl, ht⟩), hB⟩

set_option maxHeartbeats 8000000 in
set_option maxRecDepth 100000 in
theorem slimX_any (t : M.Tb) (p : Tp) (w : World) (hal : ∀ l, l ∈ t.above → l.length ≤ 1000000) (hwl : t.wrong.length ≤ 1000000) (ht : TbIn w t p) : Calls Try.prog 9 #[tbV t p] w (SlimPost t w) := by
  obtain ⟨ik, hik, hks⟩ := Option.map_eq_some_iff.1 knInfo
  obtain ⟨t0, hti, htz, hts, _⟩ := info_parts tabInfo
  have HTI := Lib.hid (And.intro hti (And.intro htz hts))
  have HIK := Lib.hid hik
  have HKS := Lib.hid hks
  have hBB : Below w.heap.size w ((w.alloc (.cells (tbA t p) 26)).alloc (.cells tb0 26)) := belowA (below1 _ _) _
  have HC := Lib.hid (proved_any t p ((w.alloc (.cells (tbA t p) 26)).alloc (.cells tb0 26)) hal (ht.below hBB))
  have HT := Lib.hid (ht.below hBB)
  have HWL := Lib.hid hwl
  have HO := Lib.hid (box_last w (.cells (tbA t p) 26) tb0 26)
  have HX := Lib.hid ((tbBox (t := t) (p := p) (box_new w (tbA t p) 26)).below (below1 _ (.cells tb0 26)))
  obtain ⟨c0, c1, c2, c3⟩ := HX.out
  have HBB := Lib.hid hBB
  clear ht hik hks hal hti htz hts hBB hwl
  go_enter Try.func9, Try.ntmps9
  go_wp2_with fail
  refine HC.out.mono ?_
  rintro e w1 ⟨⟨hf, rfl⟩ | ⟨hf, hk, rfl⟩ | ⟨hf, rfl⟩, hB1⟩
  · have HF := Lib.hid hf
    have HB := Lib.hid (belowA (below2 HBB.out hB1) (.cells kn0 62))
    have HO1 := Lib.hid (show (w1.alloc (.cells kn0 62)).heap[w.heap.size + 1]? = some (.cells tb0 26 (0, 0)) by
      rw [Below.heap_alloc _ _ _ (Nat.lt_of_lt_of_le (heap_lt HO.out) hB1.size), hB1.block _ (heap_lt HO.out)]; exact HO.out)
    clear hf hB1 c0 c1 c2 c3
    go_wp2_with (refine wpList_store_row _ rfl 26 _ _ rfl rfl t0 HTI.out.1 (w.heap.size + 1) tb0 tb0 26 rfl rfl HO1.out rfl HTI.out.2.2 (by intro v hv; simp only [List.mem_cons, List.not_mem_nil, or_false] at hv; rcases hv with rfl | rfl | rfl | rfl <;> rfl) ?_; intro w3 h3 hg3; have H3 := Lib.hid h3; clear h3)
    obtain ⟨q0, q1, q2, q3⟩ := tbBox (t := M.tz) (p := pz) H3.out
    have hBf : Below w.heap.size w w3 := HB.out.grown hg3 HB.out.size (fun k e => by cases e; omega)
    exact bodyPost_ret (v := .tuple #[tbV M.tz pz, .int .i64 4]) (by simp [results, Try.results9, go_sem, q0, q1, q2, q3]) rfl (sp_1 HF.out hBf)
  · have HF := Lib.hid hf
    have HK := Lib.hid hk
    have HB := Lib.hid (belowA (below2 HBB.out hB1) (.cells kn0 62))
    have HO1 := Lib.hid (show (w1.alloc (.cells kn0 62)).heap[w.heap.size + 1]? = some (.cells tb0 26 (0, 0)) by
      rw [Below.heap_alloc _ _ _ (Nat.lt_of_lt_of_le (heap_lt HO.out) hB1.size), hB1.block _ (heap_lt HO.out)]; exact HO.out)
    clear hf hk hB1 c0 c1 c2 c3
    go_wp2_with (refine wpList_store_row _ rfl 26 _ _ rfl rfl t0 HTI.out.1 (w.heap.size + 1) tb0 tb0 26 rfl rfl HO1.out rfl HTI.out.2.2 (by intro v hv; simp only [List.mem_cons, List.not_mem_nil, or_false] at hv; rcases hv with rfl | rfl | rfl | rfl <;> rfl) ?_; intro w3 h3 hg3; have H3 := Lib.hid h3; clear h3)
    obtain ⟨q0, q1, q2, q3⟩ := tbBox (t := M.tz) (p := pz) H3.out
    have hBf : Below w.heap.size w w3 := HB.out.grown hg3 HB.out.size (fun k e => by cases e; omega)
    exact bodyPost_ret (v := .tuple #[tbV M.tz pz, .int .i64 12]) (by simp [results, Try.results9, go_sem, q0, q1, q2, q3]) rfl (sp_2 HF.out HK.out hBf)
  · have HF := Lib.hid hf
    have HB := Lib.hid (belowA (below2 HBB.out hB1) (.cells (knA t p (M.know t)) 62))
    have HO1 := Lib.hid (show (w1.alloc (.cells (knA t p (M.know t)) 62)).heap[w.heap.size + 1]? = some (.cells tb0 26 (0, 0)) by
      rw [Below.heap_alloc _ _ _ (Nat.lt_of_lt_of_le (heap_lt HO.out) hB1.size), hB1.block _ (heap_lt HO.out)]; exact HO.out)
    have HKN := Lib.hid (box_new w1 (knA t p (M.know t)) 62)
    have HT1 := Lib.hid ((HT.out.below hB1).below (below1 w1 (.cells (knA t p (M.know t)) 62)))
    have hsz := Nat.lt_of_lt_of_le (heap_lt HO.out) hB1.size
    clear hf hB1 c0 c1 c2 c3
    go_wp2_with (refine wpList_load_row _ rfl 62 _ rfl ik HIK.out (knAgg _) w1.heap.size (knA t p (M.know t)) 62 rfl HKN.out HKS.out ?_)
    refine (slim_any t p _ (M.lat_good HF.out) HWL.out HT1.out).mono ?_
    rintro e w2 ⟨p', rfl, ht2, hB2⟩
    have HO2 := Lib.hid (show w2.heap[w.heap.size + 1]? = some (.cells tb0 26 (0, 0)) by
      rw [hB2.block _ (heap_lt HO1.out)]; exact HO1.out)
    have HB2 := Lib.hid (below2 HB.out hB2)
    have hz2 := hB2.size
    have HT2 := Lib.hid ht2
    clear ht2 hB2
    go_wp2_with (refine wpList_store_row _ rfl 26 _ _ rfl rfl t0 HTI.out.1 (w.heap.size + 1) tb0 (tbA (M.slm t) p') 26 rfl rfl HO2.out rfl HTI.out.2.2 (by intro v hv; simp only [List.mem_cons, List.not_mem_nil, or_false] at hv; rcases hv with rfl | rfl | rfl | rfl <;> rfl) ?_; intro w3 h3 hg3; have H3 := Lib.hid h3; clear h3)
    obtain ⟨q0, q1, q2, q3⟩ := tbBox (t := M.slm t) (p := p') H3.out
    have hBf : Below w.heap.size w w3 := HB2.out.grown hg3 HB2.out.size (fun k e => by cases e; omega)
    have HT3 := HT2.out w3 hg3.size (fun g h1 h2 => hg3.block g h2 (fun e => by injection e with e; rw [World.size_alloc] at h1; omega))
    exact bodyPost_ret (v := .tuple #[tbV (M.slm t) p', .int .i64 0]) (by simp [results, Try.results9, go_sem, q0, q1, q2, q3]) rfl (sp_3 HF.out HT3 hBf)
end Go.Proofs.Ytnhnjfoboepffaa
