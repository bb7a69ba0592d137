/- DERIVED. Contracts of layer 1: lists of tokens; 'leading' and 'every' at them. -/
import Derived.Test.YtamdcloahkacnaaGreatDoorLexH
namespace Go.Proofs.YtamdcloahkacnaaGreatDoor
open Go.RowKit Go.WideMaps Go.Maps

/-- A list of tokens as it lies in memory behind an address. -/
structure LxAt (w : World) (b off : Nat) (l : List M.Lx) : Prop where
  lt : b < w.heap.size
  c0 : ∀ i, (h : i < l.length) → w.cell? ⟨b, off + i * 3, none⟩ = some (.int .u8 l[i].kind)
  c1 : ∀ i, (h : i < l.length) → w.cell? ⟨b, off + i * 3 + 1, none⟩ = some (.string l[i].text)
  c2 : ∀ i, (h : i < l.length) → w.cell? ⟨b, off + i * 3 + 2, none⟩ = some (.int .i64 l[i].pos)
def LxSl (w : World) (a : Option Addr) (l : List M.Lx) : Prop := l = [] ∨ ∃ b off, a = some ⟨b, off, none⟩ ∧ LxAt w b off l
theorem LxAt.below {w w' : World} {b off : Nat} {l : List M.Lx} (h : LxAt w b off l) (hb : Below w.heap.size w w') : LxAt w' b off l :=
  ⟨Nat.lt_of_lt_of_le h.lt hb.size, fun i hi => by rw [(bcell hb).1 _ _ h.lt]; exact h.c0 i hi, fun i hi => by rw [(bcell hb).1 _ _ h.lt]; exact h.c1 i hi, fun i hi => by rw [(bcell hb).1 _ _ h.lt]; exact h.c2 i hi⟩
theorem LxSl.below {w w' : World} {a : Option Addr} {l : List M.Lx} (h : LxSl w a l) (hb : Below w.heap.size w w') : LxSl w' a l := by
  rcases h with h | ⟨b, off, rfl, h⟩
  · exact Or.inl h
  · exact Or.inr ⟨b, off, rfl, h.below hb⟩
theorem LxSl.at {w : World} {a : Option Addr} {l : List M.Lx} (h : LxSl w a l) {k : Nat} (hk : k < l.length) : ∃ b off, a = some ⟨b, off, none⟩ ∧ LxAt w b off l := by
  rcases h with h | h
  · subst h; simp at hk
  · exact h

set_option maxHeartbeats 1000000 in
set_option maxRecDepth 100000 in
theorem leading_lx (a : Option Addr) (c g : Nat) (lb : Array Value) (l : List M.Lx) (p : Nat → M.Lx → Bool) (w : World) (hl : l.length ≤ 1000000) (hs : LxSl w a l)
    (eg : ∀ args w, (callFunc g args).run Tryz.prog w = .ok (.enter g args) w)
    (hcl : ∀ i, (hi : i < l.length) → ∀ w1, Below w.heap.size w w1 → Calls Tryz.prog g (#[.int .i64 i, lxV l[i]] ++ lb) w1 fun e w2 => e = .returned (.bool (p i l[i])) ∧ Below w1.heap.size w1 w2) :
    Calls Tryz.prog 37 #[.slice a l.length c, .func (.func g) #[] lb] w fun e w' => e = .returned (.int .i64 (M.leadI p 0 l)) ∧ Below w.heap.size w w' := by
  have HS := Lib.hid hs
  have HCL := Lib.hid hcl
  clear hs hcl
  go_enter Tryz.func37, Tryz.ntmps37
  go_wp2_with fail
  go_loopw [4, 5, 6, 9] (fun _ _ _ i wr => ∃ k : Nat, k ≤ l.length ∧ i = .int .i64 k ∧ (∀ j, (hj : j < l.length) → j < k → p j l[j] = true) ∧ Below w.heap.size w wr) (fun _ _ _ i _ => l.length - (intOf i).toNat)
  case atStart => exact ⟨0, by omega, rfl, fun j _ hj => by omega, Below.refl _ _⟩
  case round =>
    rename_i wr
    obtain ⟨k, hk, rfl, hb, hB⟩ := hrel
    have HB := Lib.hid hb
    clear hb
    by_cases hlt : k < l.length
    · obtain ⟨b, off, rfl, ha⟩ := (HS.out.below hB).at hlt
      have h0 := ha.c0 k hlt
      have h1 := ha.c1 k hlt
      have h2 := ha.c2 k hlt
      clear ha
      go_wp2_with fail
      refine (HCL.out k hlt _ (belowA hB _)).mono ?_
      cases hp : p k l[k]
      · have HP := Lib.hid hp
        clear hp
        rintro e w2 ⟨rfl, hB2⟩
        go_wp2
        go_ret
        exact ⟨ret_int (by rw [M.leadI_stop p l 0 k hlt (fun j hj => by rw [Nat.zero_add]; exact HB.out j (by omega) hj) (by rw [Nat.zero_add]; exact HP.out)]; simp), below2 (belowA hB _) hB2⟩
      · have HP := Lib.hid hp
        clear hp
        rintro e w2 ⟨rfl, hB2⟩
        go_wp2
        go_roundw
        case rel => exact ⟨k + 1, by omega, by go_num, fun j hj h => by by_cases e : j = k; · subst e; exact HP.out
                                                                        · exact HB.out j hj (by omega), below2 (belowA hB _) hB2⟩
        case measure => simp [intOf]; omega
    · go_wp2
      go_ret
      exact ⟨ret_int (by rw [M.leadI_all p l 0 (fun j hj => by rw [Nat.zero_add]; exact HB.out j hj (by omega))]; simp), hB⟩


theorem enters_every1 : ∀ args w, (callFunc 49 args).run Tryz.prog w = .ok (.enter 49 args) w := enters_of Tryz.func49 (by kernel_rfl) rfl

set_option maxHeartbeats 1000000 in
set_option maxRecDepth 100000 in
theorem every1_any (i : Nat) (x : M.Lx) (b g : Nat) (lb : Array Value) (r : Bool) (w : World) (hc : w.cell? ⟨b, 0, none⟩ = some (.func (.func g) #[] lb))
    (eg : ∀ args w, (callFunc g args).run Tryz.prog w = .ok (.enter g args) w)
    (hcl : ∀ w1, Below w.heap.size w w1 → Calls Tryz.prog g (#[lxV x] ++ lb) w1 fun e w2 => e = .returned (.bool r) ∧ Below w1.heap.size w1 w2) :
    Calls Tryz.prog 49 #[.int .i64 i, lxV x, .pointer (some ⟨b, 0, none⟩)] w fun e w' => e = .returned (.bool r) ∧ Below w.heap.size w w' := by
  have HCL := Lib.hid hcl
  clear hcl
  have hb : b < w.heap.size := World.block_lt_of_cell? w ⟨b, 0, none⟩ hc
  go_enter Tryz.func49, Tryz.ntmps49
  go_wp2_with fail
  refine (HCL.out _ (below1 _ _)).mono ?_
  rintro e w2 ⟨rfl, hB2⟩
  go_wp2_with fail
  go_ret
  exact ⟨rfl, below2 (below1 _ _) hB2⟩

set_option maxHeartbeats 1000000 in
set_option maxRecDepth 100000 in
theorem every_any (a : Option Addr) (c g : Nat) (lb : Array Value) (l : List M.Lx) (p : M.Lx → Bool) (w : World) (hl : l.length ≤ 1000000) (hs : LxSl w a l)
    (eg : ∀ args w, (callFunc g args).run Tryz.prog w = .ok (.enter g args) w)
    (hcl : ∀ i, (hi : i < l.length) → ∀ w1, Below w.heap.size w w1 → Calls Tryz.prog g (#[lxV l[i]] ++ lb) w1 fun e w2 => e = .returned (.bool (p l[i])) ∧ Below w1.heap.size w1 w2) :
    Calls Tryz.prog 28 #[.slice a l.length c, .func (.func g) #[] lb] w fun e w' => e = .returned (.bool (l.all p)) ∧ Below w.heap.size w w' := by
  have HS := Lib.hid hs
  have HCL := Lib.hid hcl
  clear hs hcl
  go_enter Tryz.func28, Tryz.ntmps28
  go_wp2_with fail
  refine (leading_lx a c 49 #[.pointer (some ⟨w.heap.size, 0, none⟩)] l (fun _ x => p x) _ hl (HS.out.below (below1 _ _)) enters_every1 (fun i hi w1 hB1 => every1_any i l[i] w.heap.size g lb (p l[i]) w1 (by
    rw [hB1.cell (by simp), World.cell?_alloc_at _ _ _ _ rfl]; rfl) eg (fun w2 hB2 => HCL.out i hi w2 (below2 (below2 (below1 _ _) hB1) hB2)))).mono ?_
  rintro e w2 ⟨rfl, hB2⟩
  go_wp2_with fail
  go_ret
  refine ⟨ret_bool ?_, below2 (below1 _ _) hB2⟩
  rw [Bool.eq_iff_iff, List.all_eq_true]
  constructor
  · intro h x hx
    obtain ⟨j, hj, rfl⟩ := List.getElem_of_mem hx
    have h' : M.leadI (fun _ x => p x) 0 l = l.length := by have h2 : ((M.leadI (fun _ x => p x) 0 l : Nat) : Int) = l.length := by simpa using h
                                                            omega
    have := M.leadI_before (fun _ x => p x) l 0 j hj (by omega)
    exact this
  · intro h
    have := M.leadI_all (fun _ x => p x) l 0 (fun j hj => h _ (List.getElem_mem hj))
    simp; omega

end Go.Proofs.YtamdcloahkacnaaGreatDoor
