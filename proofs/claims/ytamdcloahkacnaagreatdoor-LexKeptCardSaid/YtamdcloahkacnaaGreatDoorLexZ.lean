/- DERIVED. Contracts of layer 1: how many of the first, and of the last tokens stay. -/
import Derived.Test.YtamdcloahkacnaaGreatDoorLexY
namespace Go.Proofs.YtamdcloahkacnaaGreatDoor
open Go.RowKit Go.WideMaps Go.Maps Go.Shelf

theorem edtAt_new (w : World) (x : M.Ed) (s u : ByteArray) (t : TypeId) : EdtAt (w.alloc (.cells #[.int .i64 x.from_, .int .i64 x.to_, .string x.put, .string s, .string u] t)) w.heap.size x s u :=
  ⟨by rw [World.cell?_alloc_at _ _ _ _ rfl]; rfl, by rw [World.cell?_alloc_at _ _ _ _ rfl]; rfl, by rw [World.cell?_alloc_at _ _ _ _ rfl]; rfl, by rw [World.cell?_alloc_at _ _ _ _ rfl]; rfl, by rw [World.cell?_alloc_at _ _ _ _ rfl]; rfl⟩
theorem EdtAt.below {w w' : World} {b : Nat} {x : M.Ed} {s u : ByteArray} (h : EdtAt w b x s u) (hB : Below w.heap.size w w') : EdtAt w' b x s u := by
  obtain ⟨h0, h1, h2, h3, h4⟩ := h
  have k : ∀ {p : Addr} {v : Value}, w.cell? p = some v → w'.cell? p = some v := fun {p v} hp => by rw [hB.cell (World.block_lt_of_cell? w p hp)]; exact hp
  exact ⟨k h0, k h1, k h2, k h3, k h4⟩
theorem cell_below {w w' : World} {p : Addr} {v : Value} (h : w.cell? p = some v) (hB : Below w.heap.size w w') : w'.cell? p = some v := by rw [hB.cell (World.block_lt_of_cell? w p h)]; exact h

set_option maxHeartbeats 1000000 in
set_option maxRecDepth 100000 in
theorem head_any (x : M.Ed) (s u : ByteArray) (a : Option Addr) (c : Nat) (a' : Option Addr) (c' : Nat) (old now : List M.Lx) (w : World) (hl : old.length ≤ 1000000) (ho : LxSl w a old) (hn : LxSl w a' now) :
    Calls Tryz.prog 21 #[edtV x s u, .slice a old.length c, .slice a' now.length c'] w fun e w' => e = .returned (.int .i64 (M.head x old now)) ∧ Below w.heap.size w w' := by
  have HO := Lib.hid ho
  have HN := Lib.hid hn
  clear ho hn
  go_enter Tryz.func21, Tryz.ntmps21
  go_wp2_with fail
  have hB0 : Below w.heap.size w ((w.alloc (.cells #[.int .i64 x.from_, .int .i64 x.to_, .string x.put, .string s, .string u] 50)).alloc (.cells #[.slice a' now.length c'] 22)) := belowA (below1 _ _) _
  have e0 := (edtAt_new w x s u 50).below (below1 _ (.cells #[.slice a' now.length c'] 22))
  have e1 : ((w.alloc (.cells #[.int .i64 x.from_, .int .i64 x.to_, .string x.put, .string s, .string u] 50)).alloc (.cells #[.slice a' now.length c'] 22)).cell? ⟨w.heap.size + 1, 0, none⟩ = some (.slice a' now.length c') := by rw [World.cell?_alloc_at _ _ _ _ (by simp)]; rfl
  refine (leading_lx a c 38 #[.pointer (some ⟨w.heap.size, 0, none⟩), .pointer (some ⟨w.heap.size + 1, 0, none⟩)] old (M.headP x now) _ hl (HO.out.below hB0) enters_head1 (fun i hi w1 hB1 =>
    head1_any i old[i] w.heap.size (w.heap.size + 1) x s u a' c' now w1 (e0.below hB1) (cell_below e1 hB1) (HN.out.below (below2 hB0 hB1)))).mono ?_
  rintro e w2 ⟨rfl, hB2⟩
  go_wp2_with fail
  go_ret
  exact ⟨rfl, below2 hB0 hB2⟩

set_option maxHeartbeats 1000000 in
set_option maxRecDepth 100000 in
theorem tail_any (x : M.Ed) (s u : ByteArray) (a : Option Addr) (c : Nat) (a' : Option Addr) (c' : Nat) (old now : List M.Lx) (w : World) (hl : old.length ≤ 1000000) (hl' : now.length ≤ 1000000) (ho : LxSl w a old) (hn : LxSl w a' now)
    (hs : s.size ≤ 1000000) (hu : u.size ≤ 1000000) (ht : ∀ t, t ∈ old → 0 ≤ t.pos ∧ t.pos ≤ 1000000) :
    Calls Tryz.prog 22 #[edtV x s u, .slice a old.length c, .slice a' now.length c'] w fun e w' => e = .returned (.int .i64 (M.tail x ((u.size : Int) - (s.size : Int)) old now)) ∧ Below w.heap.size w w' := by
  have HO := Lib.hid ho
  have HN := Lib.hid hn
  have HT := Lib.hid ht
  clear ho hn ht
  go_enter Tryz.func22, Tryz.ntmps22
  go_wp2_with fail
  refine (reversed_lx a' c' now _ hl' (HN.out.below (below1 _ _))).mono ?_
  rintro e w1 ⟨ra, rc, rfl, hr1, hB1⟩
  have HR1 := Lib.hid hr1
  have HE1 := Lib.hid ((edtAt_new w x s u 50).below hB1)
  have hW1 := below2 (below1 w _) hB1
  clear hr1 hB1
  go_wp2_with fail
  refine (reversed_lx a c old _ hl (HO.out.below (belowA hW1 _))).mono ?_
  rintro e w2 ⟨oa, oc, rfl, hr2, hB2⟩
  have HR2 := Lib.hid hr2
  have HE2 := Lib.hid (((HE1.out).below (below1 _ _)).below hB2)
  have HD : Hid (w2.cell? ⟨w1.heap.size, 0, none⟩ = some (.slice ra now.length rc)) := Lib.hid (cell_below (by rw [World.cell?_alloc_at _ _ _ _ rfl]; rfl) hB2)
  have HN2 := Lib.hid ((HR1.out.below (below1 _ _)).below hB2)
  have hW2 := below2 (belowA hW1 _) hB2
  clear hr2 hB2 hW1
  go_wp2_with fail
  have hcall := leading_lx oa oc 40 #[.pointer (some ⟨w.heap.size, 0, none⟩), .pointer (some ⟨w1.heap.size, 0, none⟩)] old.reverse (M.tailP x ((u.size : Int) - (s.size : Int)) now.reverse) w2 (by rw [List.length_reverse]; exact hl) HR2.out enters_tail1 (fun i hi w3 hB3 => by
    have hm := HT.out old.reverse[i] (List.mem_reverse.1 (List.getElem_mem hi))
    exact tail1_any i old.reverse[i] w.heap.size w1.heap.size x s u ra rc now.reverse w3 (HE2.out.below hB3) (by rw [List.length_reverse]; exact cell_below HD.out hB3) (HN2.out.below hB3) hs hu hm.1 hm.2)
  rw [List.length_reverse] at hcall
  refine hcall.mono ?_
  clear hcall
  rintro e w3 ⟨rfl, hB3⟩
  go_wp2_with fail
  go_ret
  exact ⟨rfl, below2 hW2 hB3⟩

end Go.Proofs.YtamdcloahkacnaaGreatDoor
