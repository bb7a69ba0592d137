/- DERIVED. Contract of the statements' awake. -/
import Derived.Test.YtamdcloahkacnaaGreatDoorLexSa
namespace Go.Proofs.YtamdcloahkacnaaGreatDoor
open Go.RowKit Go.WideMaps Go.Maps Go.Shelf
namespace M
def aw1 : List Lx := (scan [112, 117, 116, 32, 120, 32, 123, 49, 125, 59, 37, 32, 111, 110, 101]).1
theorem aw1_scan : scan [112, 117, 116, 32, 120, 32, 123, 49, 125, 59, 37, 32, 111, 110, 101] = (aw1, 0, 0) := by kernel_rfl
theorem aw1_len : aw1.length = 6 := by kernel_rfl
theorem aw1_four : aw1[4]? = some ⟨4, ⟨#[125]⟩, 8⟩ := by kernel_rfl
def aw2 : List Lx := [⟨1, ⟨#[97]⟩, 0⟩, ⟨1, ⟨#[98]⟩, 0⟩, ⟨4, ⟨#[60]⟩, 0⟩, ⟨4, ⟨#[61]⟩, 0⟩, ⟨2, ⟨#[49]⟩, 0⟩, ⟨2, ⟨#[50]⟩, 0⟩]
theorem aw2_join : join aw2 = (⟨#[97, 32, 98, 60, 32, 61, 49, 32, 50]⟩, 0) := by kernel_rfl
theorem aw3_diff : diff ⟨#[108, 101, 116, 32, 97, 32, 61, 32, 49, 59]⟩ ⟨#[108, 101, 116, 32, 97, 98, 32, 61, 32, 49, 59]⟩ = (⟨5, 5, ⟨#[98]⟩⟩, 0) := by kernel_rfl
theorem aw4_rescan : rescan ⟨#[97, 32, 98, 32, 99]⟩ ⟨3, 3, ⟨#[100]⟩⟩ = (⟨1, 1, [⟨1, ⟨#[98, 100]⟩, 2⟩]⟩, 0, 0) := by kernel_rfl
end M

theorem aw2_at (w : World) (t : TypeId) : LxAt (w.alloc (.cells #[.int .u8 1, .string ⟨#[97]⟩, .int .i64 0, .int .u8 1, .string ⟨#[98]⟩, .int .i64 0, .int .u8 4, .string ⟨#[60]⟩, .int .i64 0, .int .u8 4, .string ⟨#[61]⟩, .int .i64 0, .int .u8 2, .string ⟨#[49]⟩, .int .i64 0, .int .u8 2, .string ⟨#[50]⟩, .int .i64 0] t)) w.heap.size 0 M.aw2 := by
  have hl : M.aw2.length = 6 := rfl
  refine ⟨by simp, ?_, ?_, ?_⟩ <;> intro i hi <;> rw [World.cell?_alloc_new] <;> rw [hl] at hi <;> rcases i with _ | _ | _ | _ | _ | _ | i <;> first | rfl | omega
theorem aw4_at (w : World) (t : TypeId) (k : Int) (s : ByteArray) (p : Int) : LxAt (w.alloc (.cells #[.int .u8 k, .string s, .int .i64 p] t)) w.heap.size 0 [⟨k, s, p⟩] := by
  refine ⟨by simp, ?_, ?_, ?_⟩ <;> intro i hi <;> rw [World.cell?_alloc_new] <;> simp only [List.length_cons, List.length_nil] at hi <;> rcases i with _ | i <;> first | rfl | omega

set_option maxHeartbeats 4000000 in
set_option maxRecDepth 100000 in
theorem awake_any (w : World) (hw : Ready w) : Calls Tryz.prog 7 #[] w fun e w' => e = .returned (.bool true) ∧ Below w.heap.size w w' := by
  have HW := Lib.hid hw
  clear hw
  go_enter Tryz.func7, Tryz.ntmps7
  go_wp2_with fail
  refine (scan_any ⟨#[112, 117, 116, 32, 120, 32, 123, 49, 125, 59, 37, 32, 111, 110, 101]⟩ _ HW.out (by unfold maxLen; decide)).mono ?_
  rintro e w1 ⟨a1, k1, rfl, hk1, hn1, hs1, hB1⟩
  dsimp only at hk1 hs1 ⊢
  rw [M.aw1_scan] at hk1 hs1 ⊢
  dsimp only at hk1 hs1 ⊢
  rw [M.aw1_len] at hk1 ⊢
  obtain ⟨b1, o1, rfl, ha1⟩ := hs1.at (k := 4) (by rw [M.aw1_len]; decide)
  have h4 : M.aw1[4]'(by rw [M.aw1_len]; decide) = ⟨4, ⟨#[125]⟩, 8⟩ := by
    have := M.aw1_four
    rw [List.getElem?_eq_getElem (by rw [M.aw1_len]; decide)] at this
    exact Option.some.inj this
  have c0 := ha1.c0 4 (by rw [M.aw1_len]; decide)
  have c1 := ha1.c1 4 (by rw [M.aw1_len]; decide)
  have c2 := ha1.c2 4 (by rw [M.aw1_len]; decide)
  have hlt1 := ha1.lt
  rw [h4] at c0 c1 c2
  dsimp only at c0 c1 c2
  clear ha1 hs1 hn1 h4
  go_wp2_with fail
  refine (join_any _ 6 M.aw2 _ (HW.out.below (belowA hB1 _)) (Or.inr ⟨_, _, rfl, aw2_at w1 _⟩) (by unfold M.aw2; intro x hx; simp only [List.mem_cons, List.not_mem_nil, or_false] at hx; rcases hx with rfl | rfl | rfl | rfl | rfl | rfl <;> decide)).mono ?_
  rintro e w2 ⟨rfl, hB2⟩
  rw [M.aw2_join]
  have hBw2 := below2 (belowA hB1 _) hB2
  have hz2 : w1.heap.size + 1 ≤ w2.heap.size := by have := hB2.size; simp at this; omega
  have hlt2 : b1 < w2.heap.size := by omega
  have hu : b1 < w1.heap.size + 1 := by omega
  replace c0 := cell_below (cell_below c0 (below1 _ _)) hB2
  replace c1 := cell_below (cell_below c1 (below1 _ _)) hB2
  replace c2 := cell_below (cell_below c2 (below1 _ _)) hB2
  clear hB1 hB2
  dsimp only
  go_wp2_with fail
  refine (diff_any ⟨#[108, 101, 116, 32, 97, 32, 61, 32, 49, 59]⟩ ⟨#[108, 101, 116, 32, 97, 98, 32, 61, 32, 49, 59]⟩ w2 (by unfold maxLen; decide) (by unfold maxLen; decide)).mono ?_
  rintro e w3 ⟨rfl, hB3⟩
  rw [M.aw3_diff]
  have hBw3 := below2 hBw2 hB3
  replace c0 := cell_below c0 hB3
  replace c1 := cell_below c1 hB3
  replace c2 := cell_below c2 hB3
  have hlt3 : b1 < w3.heap.size := by have := hB3.size; omega
  clear hB3 hBw2 hlt2 hz2
  dsimp only
  go_wp2_with fail
  refine (rescan_any ⟨#[97, 32, 98, 32, 99]⟩ ⟨3, 3, ⟨#[100]⟩⟩ _ (HW.out.below (belowA hBw3 _)) (by decide) (by decide)).mono ?_
  rintro e w4 ⟨a4, k4, rfl, hs4, hB4⟩
  rw [M.aw4_rescan] at hs4 ⊢
  have hBw4 := below2 (belowA hBw3 _) hB4
  have hz4 : w3.heap.size + 1 ≤ w4.heap.size := by have := hB4.size; simp at this; omega
  have e3 := (hB4.block w3.heap.size (by simp)).trans (MapKept.heap_alloc w3 _).1
  have E0 : w4.cell? ⟨w3.heap.size, 0, none⟩ = some (.int .i64 5) := by rw [Lib.cell_of_heap e3]; rfl
  have E1 : w4.cell? ⟨w3.heap.size, 1, none⟩ = some (.int .i64 5) := by rw [Lib.cell_of_heap e3]; rfl
  have E2 : w4.cell? ⟨w3.heap.size, 2, none⟩ = some (.string ⟨#[98]⟩) := by rw [Lib.cell_of_heap e3]; rfl
  replace c0 := cell_below (cell_below c0 (below1 _ _)) hB4
  replace c1 := cell_below (cell_below c1 (below1 _ _)) hB4
  replace c2 := cell_below (cell_below c2 (below1 _ _)) hB4
  have hlt4 : b1 < w4.heap.size := by omega
  have hlt5 : w3.heap.size < w4.heap.size := by omega
  have HS4 := Lib.hid hs4
  clear hB4 hBw3 hlt3 e3 hs4
  dsimp only [List.length_cons, List.length_nil]
  go_wp2_with fail
  refine (sameTokens_any a4 (some ⟨w4.heap.size + 1, 0, none⟩) k4 1 [⟨1, ⟨#[98, 100]⟩, 2⟩] [⟨1, ⟨#[98, 100]⟩, 2⟩] _ (by decide) (by decide) ((HS4.out.below (below1 _ _)).below (below1 _ _)) (Or.inr ⟨_, _, rfl, by have := aw4_at (w4.alloc (.cells #[.int .i64 1, .int .i64 1, .slice a4 1 k4] 26)) 42 1 ⟨#[98, 100]⟩ 2; simpa using this⟩)).mono ?_
  rintro e w5 ⟨rfl, hB5⟩
  rw [(M.sameLx_iff [⟨1, ⟨#[98, 100]⟩, 2⟩] [⟨1, ⟨#[98, 100]⟩, 2⟩]).2 rfl]
  have hBw5 := below2 (belowA (belowA hBw4 _) _) hB5
  clear hB5 hBw4
  go_wp2_with fail
  go_ret
  exact ⟨rfl, hBw5⟩

theorem short_any (s : ByteArray) (w : World) : Calls Tryz.prog 6 #[.string s] w fun e w' => e = .returned (.bool (decide (s.size ≤ 3000))) ∧ Below w.heap.size w w' := by
  go_enter Tryz.func6, Tryz.ntmps6
  go_wp2_with fail
  go_ret
  exact ⟨ret_bool (by simp; omega), Below.refl _ _⟩

end Go.Proofs.YtamdcloahkacnaaGreatDoor
