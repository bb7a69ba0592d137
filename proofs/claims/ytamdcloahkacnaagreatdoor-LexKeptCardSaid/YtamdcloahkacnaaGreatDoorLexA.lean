/- DERIVED. Contracts of the leaves of layer 1: classes of bytes. -/
import Derived.Test.YtamdcloahkacnaaGreatDoorLexM
import Derived.Test.YtamdcloahkacnaaGreatDoorProg
import Derived.WalkKit
import Derived.Lib.Hide
import Derived.Deep.QuietTactic
import Derived.BigQuiet
namespace Go.Proofs.YtamdcloahkacnaaGreatDoor
open Go.RowKit

theorem ret_int {k : IntKind} {a b : Int} (h : a = b) : Ending.returned (.int k a) = .returned (.int k b) := by rw [h]
theorem ret_bool {a b : Bool} (h : a = b) : Ending.returned (.bool a) = .returned (.bool b) := by rw [h]
theorem ret_str {a b : ByteArray} (h : a = b) : Ending.returned (.string a) = .returned (.string b) := by rw [h]
theorem bcell {W w1 : World} (hb : Below W.heap.size W w1) : (∀ b o, b < W.heap.size → w1.cell? ⟨b, o, none⟩ = W.cell? ⟨b, o, none⟩) ∧ (∀ b o, b < W.heap.size → w1.frozen? ⟨b, o, none⟩ = W.frozen? ⟨b, o, none⟩) :=
  ⟨fun b o h => hb.cell (p := ⟨b, o, none⟩) h, fun b o h => hb.frozen (p := ⟨b, o, none⟩) h⟩

set_option maxRecDepth 100000 in
theorem classOf_any (c : UInt8) (w : World) :
    Calls Tryz.prog 60 #[.int .u8 c.toNat] w fun e w' => e = .returned (.int .i64 (M.cls c)) ∧ w = w' := by
  have hc : (c.toNat : Int) < 256 := by have := c.toNat_lt; omega
  go_enter Tryz.func60, Tryz.ntmps60
  go_wp2
  all_goals go_ret
  all_goals refine ⟨ret_int ?_, rfl⟩
  all_goals try simp only [beq_iff_eq, beq_eq_false_iff_ne, ne_eq] at *
  all_goals unfold M.cls
  all_goals ((repeat' split) <;> omega)

/-- A list of classes as it lies in memory. -/
def ClsAt (w : World) (v : Value) (l : List Nat) : Prop := ∃ b, v = .slice (some ⟨b, 0, none⟩) l.length l.length ∧ b < w.heap.size ∧ ∀ i, i < l.length → w.cell? ⟨b, i, none⟩ = some (.int .i64 (l.getD i 0))

/-- The place of the first class, or -1. -/
def IdxPost (l : List Nat) (x : Nat) (w : World) (e : Ending) (w' : World) : Prop := ∃ n : Int, e = .returned (.int .i64 n) ∧ (0 ≤ n ↔ x ∈ l) ∧ w = w'
theorem idx_no (l : List Nat) (x : Nat) (w : World) (h : ∀ j, (hj : j < l.length) → l[j] ≠ x) : IdxPost l x w (.returned (.int .i64 (-1))) w :=
  ⟨-1, rfl, ⟨fun h0 => absurd h0 (by decide), fun hm => by obtain ⟨j, hj, e⟩ := List.getElem_of_mem hm; exact absurd e (h j hj)⟩, rfl⟩
theorem idx_yes (l : List Nat) (x k : Nat) (w : World) (hk : k < l.length) (he : l[k] = x) : IdxPost l x w (.returned (.int .i64 k)) w :=
  ⟨k, rfl, ⟨fun _ => he ▸ List.getElem_mem hk, fun _ => Int.natCast_nonneg k⟩, rfl⟩

set_option maxHeartbeats 400000 in
theorem index_cls (b : Nat) (l : List Nat) (x : Nat) (w : World) (hl : l.length ≤ 4) (hc : ∀ i, (hi : i < l.length) → w.cell? ⟨b, i, none⟩ = some (.int .i64 l[i])) :
    Calls Tryz.prog 68 #[.slice (some ⟨b, 0, none⟩) l.length l.length, .int .i64 x] w (IdxPost l x w) := by
  have HC := Lib.hid hc
  clear hc
  go_enter Tryz.func68, Tryz.ntmps68
  go_wp2
  go_loop [8] (fun i => ∃ k : Nat, k ≤ l.length ∧ i = .int .i64 k ∧ ∀ j, (hj : j < l.length) → j < k → l[j] ≠ x) (fun i => l.length - (intOf i).toNat)
  case atStart => exact ⟨0, Nat.zero_le _, rfl, fun j _ hj => by omega⟩
  case round =>
    obtain ⟨k, hk, rfl, hb⟩ := hrel
    have HB := Lib.hid hb
    clear hb
    by_cases hlt : k < l.length
    · have hck := HC.out k hlt
      by_cases he : l[k] = x
      · have hb1 : ((x : Int) == ((l[k] : Nat) : Int)) = true := by simp [he]
        have HE := Lib.hid he
        clear he
        go_wp2
        go_ret
        exact idx_yes l x k w hlt HE.out
      · have hb1 : ((x : Int) == ((l[k] : Nat) : Int)) = false := by rw [beq_eq_false_iff_ne]; omega
        have HE := Lib.hid he
        clear he
        go_wp2
        go_round
        case rel => exact ⟨k + 1, by omega, by go_num, fun j hj h => by by_cases e : j = k; · subst e; exact HE.out
                                                                        · exact HB.out j hj (by omega)⟩
        case measure => simp [intOf]; omega
    · go_wp2
      go_ret
      exact idx_no l x w fun j hj => HB.out j hj (by omega)

theorem contains_cls (b : Nat) (l : List Nat) (x : Nat) (w : World) (hl : l.length ≤ 4) (hc : ∀ i, (hi : i < l.length) → w.cell? ⟨b, i, none⟩ = some (.int .i64 l[i])) :
    Calls Tryz.prog 59 #[.slice (some ⟨b, 0, none⟩) l.length l.length, .int .i64 x] w fun e w' => e = .returned (.bool (l.contains x)) ∧ w = w' := by
  have HC := Lib.hid hc
  clear hc
  go_enter Tryz.func59, Tryz.ntmps59
  go_wp2_with fail
  refine (index_cls b l x _ hl HC.out).mono ?_
  rintro e w' ⟨n, rfl, hn, rfl⟩
  have HN := Lib.hid hn
  clear hn
  go_wp2
  go_ret
  exact ⟨ret_bool (by rw [Bool.eq_iff_iff]; simp [HN.out]), rfl⟩

end Go.Proofs.YtamdcloahkacnaaGreatDoor
