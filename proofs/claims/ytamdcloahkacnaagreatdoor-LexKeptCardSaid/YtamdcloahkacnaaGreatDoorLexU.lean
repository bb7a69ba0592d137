/- DERIVED. Contracts of layer 1: how many bytes are alike; Diff. -/
import Derived.Test.YtamdcloahkacnaaGreatDoorLexT
import Derived.Deep.RegionWith
namespace Go.Proofs.YtamdcloahkacnaaGreatDoor
open Go.RowKit Go.WideMaps Go.Maps Go.Shelf

namespace M
/-- How many of the first bytes of two lists are the same. -/
def alike (a b : List UInt8) : Nat := leadI (fun i c => decide (b[i]? = some c)) 0 a
theorem alike_le (a b : List UInt8) : alike a b ≤ a.length := by have := leadI_le (fun i c => decide (b[i]? = some c)) a 0; unfold alike; omega
theorem alike_le' (a b : List UInt8) : alike a b ≤ b.length := by
  rcases Nat.lt_or_ge b.length (alike a b) with h | h
  · have h1 := alike_le a b
    have := leadI_before (fun i c => decide (b[i]? = some c)) a 0 b.length (by omega) (by unfold alike at h; omega)
    simp at this
  · exact h
structure Ed where
  from_ : Int
  to_ : Int
  put : ByteArray
def diff (a b : ByteArray) : Ed × Nat :=
  if (fault a.data.toList).2 ≠ 0 then (⟨0, 0, ⟨#[]⟩⟩, (fault a.data.toList).2) else
  if (fault b.data.toList).2 ≠ 0 then (⟨0, 0, ⟨#[]⟩⟩, (fault b.data.toList).2) else
  let k := alike a.data.toList b.data.toList
  let n := alike (a.data.toList.drop k).reverse (b.data.toList.drop k).reverse
  (⟨k, ((a.size - n : Nat) : Int), b.extract k (b.size - n)⟩, 0)
end M
abbrev edV (x : M.Ed) : Value := .agg #[.int .i64 x.from_, .int .i64 x.to_, .string x.put]

theorem enters_alike1 : ∀ args w, (callFunc 54 args).run Tryz.prog w = .ok (.enter 54 args) w := enters_of Tryz.func54 (by kernel_rfl) rfl

set_option maxHeartbeats 1000000 in
set_option maxRecDepth 100000 in
theorem alike1_any (i : Nat) (c : UInt8) (b : Nat) (a : Option Addr) (cap : Nat) (l : List UInt8) (w : World) (hc : w.cell? ⟨b, 0, none⟩ = some (.slice a l.length cap)) (hs : BySl w a l) :
    Calls Tryz.prog 54 #[.int .i64 i, .int .u8 c.toNat, .pointer (some ⟨b, 0, none⟩)] w fun e w' => e = .returned (.bool (decide (l[i]? = some c))) ∧ w = w' := by
  by_cases hi : i < l.length
  · obtain ⟨bb, off, rfl, ha⟩ := hs.at hi
    have h0 := ha.2 i hi
    have h1 : ((l[i].toNat : Int) == (c.toNat : Int)) = decide (l[i]? = some c) := by
      rw [List.getElem?_eq_getElem hi, Bool.eq_iff_iff]
      simp only [beq_iff_eq, decide_eq_true_eq, Option.some.injEq]
      exact ⟨fun e => UInt8.toNat_inj.1 (by omega), fun e => by rw [e]⟩
    have H1 := Lib.hid h1
    clear h1 hs ha
    go_enter Tryz.func54, Tryz.ntmps54
    go_wp2_with fail
    go_ret
    exact ⟨ret_bool H1.out, rfl⟩
  · have h1 : false = decide (l[i]? = some c) := by rw [List.getElem?_eq_none (by omega)]; simp
    have H1 := Lib.hid h1
    clear h1 hs
    go_enter Tryz.func54, Tryz.ntmps54
    go_wp2_with fail
    go_ret
    exact ⟨ret_bool H1.out, rfl⟩

set_option maxHeartbeats 1000000 in
set_option maxRecDepth 100000 in
theorem alike_any (a : Option Addr) (c : Nat) (b : Option Addr) (d : Nat) (l m : List UInt8) (w : World) (hl : l.length ≤ 1000000) (ha : BySl w a l) (hb : BySl w b m) :
    Calls Tryz.prog 32 #[.slice a l.length c, .slice b m.length d] w fun e w' => e = .returned (.int .i64 (M.alike l m)) ∧ Below w.heap.size w w' := by
  have HA := Lib.hid ha
  have HB := Lib.hid hb
  clear ha hb
  go_enter Tryz.func32, Tryz.ntmps32
  go_wp2_with fail
  refine (leading_byte a c 54 #[.pointer (some ⟨w.heap.size, 0, none⟩)] l (fun i c => decide (m[i]? = some c)) _ hl (HA.out.below (below1 _ _)) enters_alike1 (fun i hi w1 hB1 => (alike1_any i l[i] w.heap.size b d m w1 (by
    rw [hB1.cell (by simp), World.cell?_alloc_at _ _ _ _ rfl]; rfl) (HB.out.below (below2 (below1 _ _) hB1))).mono (by rintro e w2 ⟨rfl, rfl⟩; exact ⟨rfl, Below.refl _ _⟩))).mono ?_
  rintro e w2 ⟨rfl, hB2⟩
  go_wp2_with fail
  go_ret
  exact ⟨rfl, below2 (below1 _ _) hB2⟩


theorem conv_all (s : ByteArray) : ∀ W, (convert 9 69 (.string s)).run Tryz.prog W = .ok (.slice (some ⟨W.heap.size, 0, none⟩) s.size (grownCap W s.size 0 5)) (Lib.bytesWorld W 5 s) :=
  fun W => Lib.run_convert_string_bytes W 9 69 5 s Tryz.underlying9 Tryz.underlying69 Tryz.underlying5
theorem reversed_s (a : Option Addr) (c : Nat) (s : ByteArray) (w : World) (hs : s.size ≤ 1000000) (hb : BySl w a s.data.toList) :
    Calls Tryz.prog 33 #[.slice a s.size c] w fun e w' => ∃ a' c', e = .returned (.slice a' s.size c') ∧ BySl w' a' s.data.toList.reverse ∧ Below w.heap.size w w' := by
  have := reversed_by a c s.data.toList w (by rw [M.size_list]; exact hs) hb
  rw [M.size_list] at this
  exact this
theorem alike_s (a : Option Addr) (c : Nat) (b : Option Addr) (d : Nat) (s t : ByteArray) (l m : List UInt8) (w : World) (hl : l.length = s.size) (hm : m.length = t.size) (hs : s.size ≤ 1000000) (ha : BySl w a l) (hb : BySl w b m) :
    Calls Tryz.prog 32 #[.slice a s.size c, .slice b t.size d] w fun e w' => e = .returned (.int .i64 (M.alike l m)) ∧ Below w.heap.size w w' := by
  rw [← hl, ← hm]
  exact alike_any a c b d l m w (by omega) ha hb

set_option maxHeartbeats 4000000 in
set_option maxRecDepth 100000 in
theorem diff_ok (a b : ByteArray) (w : World) (ha : a.size ≤ 2500) (hb : b.size ≤ 2500) (fa : (M.fault a.data.toList).2 = 0) (fb : (M.fault b.data.toList).2 = 0) :
    Calls Tryz.prog 15 #[.string a, .string b] w fun e w' => e = .returned (.tuple #[edV (M.diff a b).1, .int .i64 (M.diff a b).2]) ∧ Below w.heap.size w w' := by
  obtain ⟨k, hk⟩ : ∃ k, M.alike a.data.toList b.data.toList = k := ⟨_, rfl⟩
  have hk1 : k ≤ a.size := by rw [← hk, ← M.size_list]; exact M.alike_le _ _
  have hk2 : k ≤ b.size := by rw [← hk, ← M.size_list]; exact M.alike_le' _ _
  have sa : (a.extract k a.size).data.toList = a.data.toList.drop k := by rw [sub_list, List.take_of_length_le (by rw [M.size_list]; exact Nat.le_refl _)]
  have sb : (b.extract k b.size).data.toList = b.data.toList.drop k := by rw [sub_list, List.take_of_length_le (by rw [M.size_list]; exact Nat.le_refl _)]
  have za : (a.extract k a.size).size ≤ 1000000 := by rw [ByteArray.size_extract]; omega
  have zb : (b.extract k b.size).size ≤ 1000000 := by rw [ByteArray.size_extract]; omega
  obtain ⟨n, hn⟩ : ∃ n, M.alike (a.extract k a.size).data.toList.reverse (b.extract k b.size).data.toList.reverse = n := ⟨_, rfl⟩
  have hn1 : n + k ≤ a.size := by
    have := M.alike_le (a.extract k a.size).data.toList.reverse (b.extract k b.size).data.toList.reverse
    rw [hn, List.length_reverse, M.size_list, ByteArray.size_extract] at this; omega
  have hn2 : n + k ≤ b.size := by
    have := M.alike_le' (a.extract k a.size).data.toList.reverse (b.extract k b.size).data.toList.reverse
    rw [hn, List.length_reverse, M.size_list, ByteArray.size_extract] at this; omega
  have hres : M.diff a b = (⟨k, ((a.size - n : Nat) : Int), b.extract k (b.size - n)⟩, 0) := by
    unfold M.diff
    rw [if_neg (by rw [fa]; simp), if_neg (by rw [fb]; simp)]
    simp only [hk, ← sa, ← sb, hn]
  have FA := Lib.hid (fun W => fault_any a W (by unfold maxLen; omega))
  have FB := Lib.hid (fun W => fault_any b W (by unfold maxLen; omega))
  have HA := Lib.hid fa
  have HBB := Lib.hid fb
  have HK := Lib.hid hk
  have HN := Lib.hid hn
  have ZA := Lib.hid za
  have ZB := Lib.hid zb
  have HRES := Lib.hid hres
  have hca := conv_all a
  have hcb := conv_all b
  clear sa sb za zb hn hk hres fa fb
  go_enter Tryz.func15, Tryz.ntmps15
  go_wp2_with fail
  refine (FA.out _).mono ?_
  rintro e w1 ⟨rfl, hB1⟩
  rw [HA.out]
  go_wp2_with fail
  refine (FB.out _).mono ?_
  rintro e w2 ⟨rfl, hB2⟩
  rw [HBB.out]
  have hW2 : Below (w.heap.size + 1) (w.alloc (.cells #[.int .i64 0, .int .i64 0, .string ⟨#[]⟩] 24)) w2 := (hB1.mono (by simp)).trans (hB2.mono (by have := hB1.size; simpa using this))
  clear hB1 hB2
  go_wp2_with fail
  have hcall := alike_s (some ⟨w2.heap.size, 0, none⟩) (grownCap w2 a.size 0 5) (some ⟨(Lib.bytesWorld w2 5 a).heap.size, 0, none⟩) (grownCap (Lib.bytesWorld w2 5 a) b.size 0 5) a b a.data.toList b.data.toList (Lib.bytesWorld (Lib.bytesWorld w2 5 a) 5 b) (M.size_list a) (M.size_list b) (by omega)
    (BySl.below (Or.inr ⟨_, _, rfl, bytes_at _ _⟩) (Lib.bytesWorld_below _ _ _)) (Or.inr ⟨_, _, rfl, bytes_at _ _⟩)
  rw [HK.out] at hcall
  refine hcall.mono ?_
  clear hcall
  rintro e w3 ⟨rfl, hB3⟩
  have hW3 := hW2.trans ((below2 (below2 (Lib.bytesWorld_below w2 5 a) (Lib.bytesWorld_below _ 5 b)) hB3).mono (by have := hW2.size; simpa using this))
  clear hW2 hB3 hca hcb FA FB
  obtain ⟨sa, hxa⟩ : ∃ sa, a.extract k a.size = sa := ⟨_, rfl⟩
  obtain ⟨sb, hxb⟩ : ∃ sb, b.extract k b.size = sb := ⟨_, rfl⟩
  rw [hxa] at ZA HN
  rw [hxb] at ZB HN
  have hsa := conv_all sa
  have hsb := conv_all sb
  go_wp2_with fail
  go_region_with (first
    | (go_at_call 33; (with_reducible refine (reversed_s _ _ sa _ ZA.out ?_).mono ?_); (first | exact Or.inr ⟨_, _, rfl, bytes_at w3.drew sa⟩ | exact Or.inr ⟨_, _, rfl, bytes_at (Lib.bytesWorld w3.drew 5 sb) sa⟩ | exact BySl.below (w := Lib.bytesWorld w3.drew 5 sa) (Or.inr ⟨_, _, rfl, bytes_at w3.drew sa⟩) (Lib.bytesWorld_below _ _ _)); rintro e wA ⟨a1, c1, rfl, hlA, hBA⟩)
    | (go_at_call 33; (with_reducible refine (reversed_s _ _ sb _ ZB.out ?_).mono ?_); (first | exact Or.inr ⟨_, _, rfl, bytes_at wA sb⟩ | exact BySl.below (w := Lib.bytesWorld (Lib.bytesWorld w3.drew 5 sa) 5 sb) (Or.inr ⟨_, _, rfl, bytes_at (Lib.bytesWorld w3.drew 5 sa) sb⟩) hBA | exact BySl.below (w := Lib.bytesWorld (Lib.bytesWorld w3.drew 5 sb) 5 sa) (BySl.below (w := Lib.bytesWorld w3.drew 5 sb) (Or.inr ⟨_, _, rfl, bytes_at w3.drew sb⟩) (Lib.bytesWorld_below _ _ _)) hBA); rintro e wB ⟨b1, d1, rfl, hlB, hBB⟩)
    | (go_at_call 32; have hcall := alike_s a1 c1 b1 d1 sa sb sa.data.toList.reverse sb.data.toList.reverse wB (by rw [List.length_reverse, M.size_list]) (by rw [List.length_reverse, M.size_list]) ZA.out (by first | exact hlA.below hBB | exact (hlA.below (Lib.bytesWorld_below _ _ _)).below hBB) hlB; rw [HN.out] at hcall; refine hcall.mono ?_; clear hcall; rintro e w4 ⟨rfl, hB4⟩))
  all_goals
    have hW4 : Below w3.heap.size w3 w4 := by
      first
        | exact below2 (below2 (below2 (below2 (below2 ((Below.refl _ _).drew) (Lib.bytesWorld_below _ _ _)) (Lib.bytesWorld_below _ _ _)) hBA) hBB) hB4
        | exact below2 (below2 (below2 (below2 (below2 ((Below.refl _ _).drew) (Lib.bytesWorld_below _ _ _)) hBA) (Lib.bytesWorld_below _ _ _)) hBB) hB4
    have hW5 := hW3.trans (hW4.mono (by have := hW3.size; simpa using this))
    clear hW4 hW3 hBA hBB hB4 hlA hlB hsa hsb hxa hxb
  all_goals
    have e4 : w4.heap[w.heap.size]? = some (.cells #[.int .i64 0, .int .i64 0, .string ⟨#[]⟩] 24 (0, 0)) := by rw [hW5.block _ (by omega)]; exact (MapKept.heap_alloc w _).1
    have q0 : w4.cell? ⟨w.heap.size, 0, none⟩ = some (.int .i64 0) := by rw [Lib.cell_of_heap e4]; rfl
    have q1 : w4.cell? ⟨w.heap.size, 1, none⟩ = some (.int .i64 0) := by rw [Lib.cell_of_heap e4]; rfl
    have q2 : w4.cell? ⟨w.heap.size, 2, none⟩ = some (.string ⟨#[]⟩) := by rw [Lib.cell_of_heap e4]; rfl
    have f0 : w4.frozen? ⟨w.heap.size, 0, none⟩ = false := Lib.frozen_of_heap e4 0
    have f1 : w4.frozen? ⟨w.heap.size, 1, none⟩ = false := Lib.frozen_of_heap e4 1
    have f2 : w4.frozen? ⟨w.heap.size, 2, none⟩ = false := Lib.frozen_of_heap e4 2
    have hz4 : w.heap.size + 1 ≤ w4.heap.size := by have := hW5.size; simpa using this
    have hBw : Below w.heap.size w w4 := (below1 w _).trans (hW5.mono (by omega))
    have b1' : k ≤ b.size - n := by omega
    have b2' : (k : Int) ≤ (b.size : Int) - (n : Int) := by omega
    clear e4 hW5
    go_wp2_with fail
    refine bodyPost_ret (v := .tuple #[.agg #[.int .i64 k, .int .i64 ((a.size : Int) - (n : Int)), .string (b.extract k (b.size - n))], .int .i64 0]) (by simp [results, Tryz.results15, go_sem, q0, q1, q2]) rfl ⟨?_, below3 hBw _ (Nat.le_refl _) _ _ _⟩
    rw [HRES.out]
    simp only [edV]
    rw [show ((a.size - n : Nat) : Int) = (a.size : Int) - (n : Int) from by omega]
    rfl

end Go.Proofs.YtamdcloahkacnaaGreatDoor
