/- DERIVED. Contracts of layer 1: the lists of signs and keywords; 'leading' at strings. -/
import Derived.Test.YtamdcloahkacnaaGreatDoorLexA
namespace Go.Proofs.YtamdcloahkacnaaGreatDoor
open Go.RowKit

def strCells (l : List (List UInt8)) : Array Value := (l.map fun g => Value.string (M.str g)).toArray
def StrsAt (w : World) (b : Nat) (l : List (List UInt8)) : Prop := b < w.heap.size ∧ ∀ i, (h : i < l.length) → w.cell? ⟨b, i, none⟩ = some (.string (M.str l[i]))
theorem StrsAt.below {w w' : World} {b : Nat} {l : List (List UInt8)} (h : StrsAt w b l) (hb : Below w.heap.size w w') : StrsAt w' b l :=
  ⟨Nat.lt_of_lt_of_le h.1 hb.size, fun i hi => by rw [(bcell hb).1 b i h.1]; exact h.2 i hi⟩
theorem StrsAt.alloc (w : World) (l : List (List UInt8)) (t : TypeId) : StrsAt (w.alloc (.cells (strCells l) t)) w.heap.size l :=
  ⟨by simp, fun i hi => by rw [World.cell?_alloc_at _ _ _ _ rfl]; simp [strCells, hi]⟩

set_option maxHeartbeats 1000000 in
set_option maxRecDepth 100000 in
theorem signs_any (w : World) :
    Calls Tryz.prog 44 #[] w fun e w' => e = .returned (.slice (some ⟨w.heap.size, 0, none⟩) 22 22) ∧ StrsAt w' w.heap.size M.signs ∧ Below w.heap.size w w' := by
  go_enter Tryz.func44, Tryz.ntmps44
  go_wp2
  go_ret
  exact ⟨rfl, StrsAt.alloc w M.signs 9, (Below.refl _ _).alloc (Nat.le_refl _) _⟩

set_option maxHeartbeats 1000000 in
set_option maxRecDepth 100000 in
theorem keywords_any (w : World) :
    Calls Tryz.prog 45 #[] w fun e w' => e = .returned (.slice (some ⟨w.heap.size, 0, none⟩) 28 28) ∧ StrsAt w' w.heap.size M.kwords ∧ Below w.heap.size w w' := by
  go_enter Tryz.func45, Tryz.ntmps45
  go_wp2
  go_ret
  exact ⟨rfl, StrsAt.alloc w M.kwords 9, (Below.refl _ _).alloc (Nat.le_refl _) _⟩


set_option maxHeartbeats 1000000 in
set_option maxRecDepth 100000 in
theorem leading_str (b g : Nat) (lb : Array Value) (l : List (List UInt8)) (p : Nat → List UInt8 → Bool) (w : World) (hl : l.length ≤ 100) (hs : StrsAt w b l)
    (eg : ∀ args w, (callFunc g args).run Tryz.prog w = .ok (.enter g args) w)
    (hcl : ∀ i, (hi : i < l.length) → ∀ w1, Below w.heap.size w w1 → Calls Tryz.prog g (#[.int .i64 i, .string (M.str l[i])] ++ lb) w1 fun e w2 => e = .returned (.bool (p i l[i])) ∧ Below w1.heap.size w1 w2) :
    Calls Tryz.prog 70 #[.slice (some ⟨b, 0, none⟩) l.length l.length, .func (.func g) #[] lb] w fun e w' => e = .returned (.int .i64 (M.leadI p 0 l)) ∧ Below w.heap.size w w' := by
  have HS := Lib.hid hs
  have HCL := Lib.hid hcl
  clear hs hcl
  go_enter Tryz.func70, Tryz.ntmps70
  go_wp2_with fail
  go_loopw [4, 5, 6, 9] (fun _ _ _ i wr => ∃ k : Nat, k ≤ l.length ∧ i = .int .i64 k ∧ (∀ j, (hj : j < l.length) → j < k → p j l[j] = true) ∧ Below w.heap.size w wr) (fun _ _ _ i _ => l.length - (intOf i).toNat)
  case atStart => exact ⟨0, by omega, rfl, fun j _ hj => by omega, Below.refl _ _⟩
  case round =>
    rename_i wr
    obtain ⟨k, hk, rfl, hb, hB⟩ := hrel
    have HB := Lib.hid hb
    clear hb
    by_cases hlt : k < l.length
    · have hc := (HS.out.below hB).2 k hlt
      go_wp2_with fail
      refine (HCL.out k hlt _ hB).mono ?_
      cases hp : p k l[k]
      · have HP := Lib.hid hp
        clear hp
        rintro e w2 ⟨rfl, hB2⟩
        go_wp2
        go_ret
        exact ⟨ret_int (by rw [M.leadI_stop p l 0 k hlt (fun j hj => by rw [Nat.zero_add]; exact HB.out j (by omega) hj) (by rw [Nat.zero_add]; exact HP.out)]; simp), hB.trans (hB2.mono hB.size)⟩
      · have HP := Lib.hid hp
        clear hp
        rintro e w2 ⟨rfl, hB2⟩
        go_wp2
        go_roundw
        case rel => exact ⟨k + 1, by omega, by go_num, fun j hj h => by by_cases e : j = k; · subst e; exact HP.out
                                                                        · exact HB.out j hj (by omega), hB.trans (hB2.mono hB.size)⟩
        case measure => simp [intOf]; omega
    · go_wp2
      go_ret
      exact ⟨ret_int (by rw [M.leadI_all p l 0 (fun j hj => by rw [Nat.zero_add]; exact HB.out j hj (by omega))]; simp), hB⟩

end Go.Proofs.YtamdcloahkacnaaGreatDoor
