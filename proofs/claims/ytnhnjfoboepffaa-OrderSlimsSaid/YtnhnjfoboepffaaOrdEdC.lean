/- DERIVED. The statement on slim tables and texts, walked. -/
import Derived.Test.YtnhnjfoboepffaaGr33
import Derived.Test.YtnhnjfoboepffaaGr46
import Derived.Test.YtnhnjfoboepffaaGr42
namespace Go.Proofs.Ytnhnjfoboepffaa
open Go.RowKit

/-- What both Slims come to. -/
theorem slim_one (t : M.Tb) (hs : Small t) : ∃ (u : M.Tb) (f : Nat), (u.elems.length ≤ 1000000 ∧ u.above.length ≤ 1000000 ∧ u.wrong.length ≤ 1000000 ∧ ∀ l, l ∈ u.above → l.length ≤ 1000000) ∧ ∀ (w : World) (e : Ending) (w' : World), SlimPost t w e w' → ∃ p', e = .returned (.tuple #[tbV u p', .int .i64 f]) ∧ TbIn w' u p' ∧ Below w.heap.size w w' := by
  by_cases hf : M.form t
  · by_cases hk : (M.brk t).1 = 0
    · have hl : M.lat t := ⟨hf, M.brk_kind hk⟩
      refine ⟨M.slm t, 0, ⟨hs.h1, by rw [M.slm_len]; exact hs.h1, hs.h3, fun l hl => ?_⟩, fun w e w' hp => ?_⟩
      · have hl' : l ∈ (List.range t.elems.length).map fun a => M.listN (M.slmR t a) 12 := hl
        obtain ⟨a, _, rfl⟩ := List.mem_map.1 hl'
        have := M.listN_le (M.slmR t a) 12
        omega
      · rcases hp with ⟨⟨h, _⟩ | ⟨_, h, _⟩ | ⟨_, p', h1, h2⟩, hB⟩
        · exact absurd hf h
        · exact absurd hk h
        · exact ⟨p', h1, h2, hB⟩
    · refine ⟨M.tz, 12, ⟨by simp [M.tz], by simp [M.tz], by simp [M.tz], by simp [M.tz]⟩, fun w e w' hp => ?_⟩
      rcases hp with ⟨⟨h, _⟩ | ⟨_, _, h⟩ | ⟨h, _⟩, hB⟩
      · exact absurd hf h
      · exact ⟨pz, h, tz_in _, hB⟩
      · exact absurd (by rw [h.2]) hk
  · refine ⟨M.tz, 4, ⟨by simp [M.tz], by simp [M.tz], by simp [M.tz], by simp [M.tz]⟩, fun w e w' hp => ?_⟩
    rcases hp with ⟨⟨_, h⟩ | ⟨h, _⟩ | ⟨h, _⟩, hB⟩
    · exact ⟨pz, h, tz_in _, hB⟩
    · exact absurd h hf
    · exact absurd h.1 hf
theorem text_one (t : M.Tb) : ∃ (s : ByteArray) (f : Nat), ∀ (w : World) (e : Ending) (w' : World), TextPost t w e w' → e = .returned (.tuple #[.string s, .int .i64 f]) ∧ Below w.heap.size w w' := by
  by_cases hf : M.form t
  · refine ⟨bs (M.txt t), 0, fun w e w' hp => ?_⟩
    rcases hp with ⟨⟨h, _⟩ | ⟨_, h⟩, hB⟩
    · exact absurd hf h
    · exact ⟨h, hB⟩
  · refine ⟨⟨#[]⟩, 4, fun w e w' hp => ?_⟩
    rcases hp with ⟨⟨_, h⟩ | ⟨h, _⟩, hB⟩
    · exact ⟨h, hB⟩
    · exact absurd h hf

set_option maxHeartbeats 8000000 in
set_option maxRecDepth 100000 in
theorem orderSlims_any (t : M.Tb) (p : Tp) (w : World) (ht : TbIn w t p) : Calls Try.prog 3 #[tbV t p] w fun e w' => e = .returned (.bool true) ∧ Below w.heap.size w w' := by
  have HX := Lib.hid (tbBox (t := t) (p := p) (box_new w (tbA t p) 26))
  have HT := Lib.hid ht
  have HC := Lib.hid (thinT_any t p (w.alloc (.cells (tbA t p) 26)) (ht.below (below1 _ _)))
  obtain ⟨c0, c1, c2, c3⟩ := HX.out
  clear ht
  go_enter Try.func3, Try.ntmps3
  go_wp2_with fail
  refine HC.out.mono ?_
  rintro e w1 ⟨rfl, hB1⟩
  have HB1 := Lib.hid (below2 (below1 _ _) hB1)
  have HX := Lib.hid (HX.out.below hB1)
  clear HC c0 c1 c2 c3 hB1
  cases hth : M.thinB t with
  | false =>
    go_wp2_with fail
    refine (awake_any _).mono ?_
    rintro e w2 ⟨rfl, hB2⟩
    have hB := below2 HB1.out hB2
    go_wp2_with fail
    go_ret
    exact ⟨rfl, hB⟩
  | true =>
    have HS := Lib.hid (small_of hth)
    obtain ⟨u, f, hu, hc⟩ := slim_one t HS.out
    obtain ⟨s, g, hp⟩ := text_one t
    have HU := Lib.hid hu
    have HSL := Lib.hid hc
    have HTX := Lib.hid hp
    clear hu hc hp hth
    obtain ⟨c0, c1, c2, c3⟩ := HX.out
    go_wp2_with fail
    refine (copy_any t p w1 HS.out.h1 HS.out.h2 HS.out.h3 HS.out.h4 (HT.out.below HB1.out)).mono ?_
    rintro e w2 ⟨p', rfl, ht2, hB2⟩
    have hbx := below2 hB2 (below1 w2 (.cells (tbA t p') 26))
    have HX := Lib.hid (HX.out.below hbx)
    have HB2 := Lib.hid (below2 HB1.out hbx)
    have HY := Lib.hid (tbBox (t := t) (p := p') (box_new w2 (tbA t p') 26))
    have HT2 := Lib.hid (ht2.below (below1 w2 (.cells (tbA t p') 26)))
    clear ht2 c0 c1 c2 c3 hB2 HB1 hbx
    obtain ⟨y0, y1, y2, y3⟩ := HY.out
    go_wp2_with fail
    refine (slimX_any t p' _ HS.out.h4 HS.out.h3 HT2.out).mono ?_
    intro e w3 hq
    obtain ⟨pa, rfl, hta, hB3⟩ := HSL.out _ _ _ hq
    have hbx := below2 hB3 (below1 w3 (.cells (tbA u pa) 26))
    have HX := Lib.hid (HX.out.below hbx)
    have HY := Lib.hid (HY.out.below hbx)
    have HT2 := Lib.hid (HT2.out.below hbx)
    have HB3 := Lib.hid (below2 HB2.out hbx)
    have HA := Lib.hid (tbBox (t := u) (p := pa) (box_new w3 (tbA u pa) 26))
    have HTA := Lib.hid (hta.below (below1 w3 (.cells (tbA u pa) 26)))
    clear hq hB3 HB2 y0 y1 y2 y3 hta hbx
    obtain ⟨y0, y1, y2, y3⟩ := HY.out
    go_wp2_with fail
    refine (text_any t p' _ HS.out.h4 HT2.out).mono ?_
    intro e w4 hq
    obtain ⟨rfl, hB4⟩ := HTX.out _ _ _ hq
    have HX := Lib.hid (HX.out.below hB4)
    have HY := Lib.hid (HY.out.below hB4)
    have HA := Lib.hid (HA.out.below hB4)
    have HT2 := Lib.hid (HT2.out.below hB4)
    have HTA := Lib.hid (HTA.out.below hB4)
    have HB4 := Lib.hid (below2 HB3.out hB4)
    clear hq hB4 HB3 y0 y1 y2 y3
    obtain ⟨c0, c1, c2, c3⟩ := HX.out
    go_wp2_with fail
    refine (refSlim_any t p _ HS.out.h1 HS.out.h2 HS.out.h3 HS.out.hs HS.out.hes HS.out.h4 (HT.out.below HB4.out)).mono ?_
    intro e w5 hq
    obtain ⟨pd, rfl, htd, hB5⟩ := HSL.out _ _ _ hq
    have hbx := below2 hB5 (below1 w5 (.cells (tbA u pd) 26))
    have HX := Lib.hid (HX.out.below hbx)
    have HY := Lib.hid (HY.out.below hbx)
    have HA := Lib.hid (HA.out.below hbx)
    have HT2 := Lib.hid (HT2.out.below hbx)
    have HTA := Lib.hid (HTA.out.below hbx)
    have HB5 := Lib.hid (below2 HB4.out hbx)
    have HD := Lib.hid (tbBox (t := u) (p := pd) (box_new w5 (tbA u pd) 26))
    have HTD := Lib.hid (htd.below (below1 w5 (.cells (tbA u pd) 26)))
    clear hq hB5 HB4 c0 c1 c2 c3 htd hbx
    obtain ⟨c0, c1, c2, c3⟩ := HX.out
    go_wp2_with fail
    refine (refText_any t p _ HS.out.hs HS.out.hes HS.out.h4 (HT.out.below HB5.out)).mono ?_
    intro e w6 hq
    obtain ⟨rfl, hB6⟩ := HTX.out _ _ _ hq
    have HX := Lib.hid (HX.out.below hB6)
    have HY := Lib.hid (HY.out.below hB6)
    have HA := Lib.hid (HA.out.below hB6)
    have HD := Lib.hid (HD.out.below hB6)
    have HT2 := Lib.hid (HT2.out.below hB6)
    have HTA := Lib.hid (HTA.out.below hB6)
    have HTD := Lib.hid (HTD.out.below hB6)
    have HB6 := Lib.hid (below2 HB5.out hB6)
    clear hq hB6 HB5 c0 c1 c2 c3
    obtain ⟨a0, a1, a2, a3⟩ := HA.out
    obtain ⟨d0, d1, d2, d3⟩ := HD.out
    go_wp2_with fail
    refine (sameTable_same u pa pd _ HU.out.1 HU.out.2.1 HU.out.2.2.1 HU.out.2.2.2 HTA.out HTD.out).mono ?_
    rintro e w7 ⟨rfl, hB7⟩
    have HX := Lib.hid (HX.out.below hB7)
    have HY := Lib.hid (HY.out.below hB7)
    have HT2 := Lib.hid (HT2.out.below hB7)
    have HB7 := Lib.hid (below2 HB6.out hB7)
    clear a0 a1 a2 a3 d0 d1 d2 d3 hB7 HB6
    obtain ⟨c0, c1, c2, c3⟩ := HX.out
    obtain ⟨y0, y1, y2, y3⟩ := HY.out
    have eg : ((g : Int) == (g : Int)) = true := by simp
    have ef : ((f : Int) == (f : Int)) = true := by simp
    go_wp2_with fail
    refine (sameTable_same t p' p _ HS.out.h1 HS.out.h2 HS.out.h3 HS.out.h4 HT2.out (HT.out.below HB7.out)).mono ?_
    rintro e w8 ⟨rfl, hB8⟩
    have HB8 := Lib.hid (below2 HB7.out hB8)
    clear c0 c1 c2 c3 y0 y1 y2 y3 hB8
    go_wp2_with fail
    refine (awake_any _).mono ?_
    rintro e w9 ⟨rfl, hB9⟩
    have hB := below2 HB8.out hB9
    clear hB9
    go_wp2_with fail
    go_ret
    exact ⟨rfl, hB⟩
end Go.Proofs.Ytnhnjfoboepffaa
