/- DERIVED. Contracts of layer 1: 'leading' at bytes; the errors of a text. -/
import Derived.Test.YtamdcloahkacnaaGreatDoorLexN
import Derived.Lib.ConvBytes
namespace Go.Proofs.YtamdcloahkacnaaGreatDoor
open Go.RowKit Go.WideMaps Go.Maps

/-- Bytes as they lie in memory. -/
def ByAt (w : World) (b off : Nat) (l : List UInt8) : Prop := b < w.heap.size ∧ ∀ i, (h : i < l.length) → w.cell? ⟨b, off + i, none⟩ = some (.int .u8 l[i].toNat)
def BySl (w : World) (a : Option Addr) (l : List UInt8) : Prop := l = [] ∨ ∃ b off, a = some ⟨b, off, none⟩ ∧ ByAt w b off l
theorem ByAt.below {w w' : World} {b off : Nat} {l : List UInt8} (h : ByAt w b off l) (hb : Below w.heap.size w w') : ByAt w' b off l :=
  ⟨Nat.lt_of_lt_of_le h.1 hb.size, fun i hi => by rw [(bcell hb).1 _ _ h.1]; exact h.2 i hi⟩
theorem BySl.below {w w' : World} {a : Option Addr} {l : List UInt8} (h : BySl w a l) (hb : Below w.heap.size w w') : BySl w' a l := by
  rcases h with h | ⟨b, off, rfl, h⟩
  · exact Or.inl h
  · exact Or.inr ⟨b, off, rfl, h.below hb⟩
theorem BySl.at {w : World} {a : Option Addr} {l : List UInt8} (h : BySl w a l) {k : Nat} (hk : k < l.length) : ∃ b off, a = some ⟨b, off, none⟩ ∧ ByAt w b off l := by
  rcases h with h | h
  · subst h; simp at hk
  · exact h

set_option maxHeartbeats 1000000 in
set_option maxRecDepth 100000 in
theorem leading_byte (a : Option Addr) (c g : Nat) (lb : Array Value) (l : List UInt8) (p : Nat → UInt8 → Bool) (w : World) (hl : l.length ≤ 1000000) (hs : BySl w a l)
    (eg : ∀ args w, (callFunc g args).run Tryz.prog w = .ok (.enter g args) w)
    (hcl : ∀ i, (hi : i < l.length) → ∀ w1, Below w.heap.size w w1 → Calls Tryz.prog g (#[.int .i64 i, .int .u8 l[i].toNat] ++ lb) w1 fun e w2 => e = .returned (.bool (p i l[i])) ∧ Below w1.heap.size w1 w2) :
    Calls Tryz.prog 43 #[.slice a l.length c, .func (.func g) #[] lb] w fun e w' => e = .returned (.int .i64 (M.leadI p 0 l)) ∧ Below w.heap.size w w' := by
  have HS := Lib.hid hs
  have HCL := Lib.hid hcl
  clear hs hcl
  go_enter Tryz.func43, Tryz.ntmps43
  go_wp2_with fail
  go_loopw [4, 5, 6, 9] (fun _ _ _ i wr => ∃ k : Nat, k ≤ l.length ∧ i = .int .i64 k ∧ (∀ j, (hj : j < l.length) → j < k → p j l[j] = true) ∧ Below w.heap.size w wr) (fun _ _ _ i _ => l.length - (intOf i).toNat)
  case atStart => exact ⟨0, by omega, rfl, fun j _ hj => by omega, Below.refl _ _⟩
  case round =>
    rename_i wr
    obtain ⟨k, hk, rfl, hb, hB⟩ := hrel
    have HB := Lib.hid hb
    clear hb
    by_cases hlt : k < l.length
    · obtain ⟨b, off, rfl, ha⟩ := (HS.out.below hB).at hlt
      have h0 := ha.2 k hlt
      have hc8 : (l[k].toNat : Int) < 256 := by have := l[k].toNat_lt; omega
      clear ha
      go_wp2_with fail
      refine (HCL.out k hlt _ hB).mono ?_
      cases hp : p k l[k]
      · have HP := Lib.hid hp
        clear hp
        rintro e w2 ⟨rfl, hB2⟩
        go_wp2
        go_ret
        exact ⟨ret_int (by rw [M.leadI_stop p l 0 k hlt (fun j hj => by rw [Nat.zero_add]; exact HB.out j (by omega) hj) (by rw [Nat.zero_add]; exact HP.out)]; simp), below2 hB hB2⟩
      · have HP := Lib.hid hp
        clear hp
        rintro e w2 ⟨rfl, hB2⟩
        go_wp2
        go_roundw
        case rel => exact ⟨k + 1, by omega, by go_num, fun j hj h => by by_cases e : j = k; · subst e; exact HP.out
                                                                        · exact HB.out j hj (by omega), below2 hB hB2⟩
        case measure => simp [intOf]; omega
    · go_wp2
      go_ret
      exact ⟨ret_int (by rw [M.leadI_all p l 0 (fun j hj => by rw [Nat.zero_add]; exact HB.out j hj (by omega))]; simp), hB⟩

theorem enters_fault1 : ∀ args w, (callFunc 42 args).run Tryz.prog w = .ok (.enter 42 args) w := enters_of Tryz.func42 (by kernel_rfl) rfl

set_option maxHeartbeats 1000000 in
set_option maxRecDepth 100000 in
theorem fault1_any (i : Nat) (c : UInt8) (w : World) :
    Calls Tryz.prog 42 #[.int .i64 i, .int .u8 c.toNat] w fun e w' => e = .returned (.bool (M.okByte c)) ∧ w = w' := by
  have hc : (c.toNat : Int) < 256 := by have := c.toNat_lt; omega
  go_enter Tryz.func42, Tryz.ntmps42
  go_wp2
  all_goals go_ret
  all_goals refine ⟨ret_bool ?_, rfl⟩
  all_goals unfold M.okByte
  all_goals rw [Bool.eq_iff_iff]
  all_goals simp
  all_goals omega

theorem bytes_at (w : World) (s : ByteArray) : ByAt (Lib.bytesWorld w 5 s) w.heap.size 0 s.data.toList :=
  ⟨by rw [Lib.bytesWorld_size]; omega, fun i hi => by
    rw [M.size_list] at hi
    rw [Nat.zero_add, Lib.bytesWorld_cell w _ s i hi, getD_at s i hi]; rfl⟩

set_option maxHeartbeats 1000000 in
set_option maxRecDepth 100000 in
theorem fault_any (s : ByteArray) (w : World) (hs : s.size ≤ maxLen) :
    Calls Tryz.prog 23 #[.string s] w fun e w' => e = .returned (.tuple #[.int .i64 (M.fault s.data.toList).1, .int .i64 (M.fault s.data.toList).2]) ∧ Below w.heap.size w w' := by
  by_cases h1 : 2500 < s.size
  · have hk : M.fault s.data.toList = (0, 5) := by unfold M.fault; rw [M.size_list, if_pos h1]
    have HK := Lib.hid hk
    clear hk
    unfold maxLen at hs
    go_enter Tryz.func23, Tryz.ntmps23
    go_wp2_with fail
    go_ret2
    exact ⟨by rw [HK.out]; rfl, Below.refl _ _⟩
  · have hb : M.badAt s.data.toList ≤ s.size := by unfold M.badAt; have := M.leadI_le (fun _ c => M.okByte c) s.data.toList 0; rw [M.size_list] at this; omega
    obtain ⟨k, hk⟩ : ∃ k, M.badAt s.data.toList = k := ⟨_, rfl⟩
    have hl : M.leadI (fun _ c => M.okByte c) 0 s.data.toList = k := hk
    have hf : M.fault s.data.toList = if k < s.size then (k, 4) else (0, 0) := by unfold M.fault; rw [hk, M.size_list, if_neg h1]
    rw [hk] at hb
    have HL := Lib.hid hl
    have HF := Lib.hid hf
    have hc := Lib.run_convert_string_bytes w 9 69 5 s Tryz.underlying9 Tryz.underlying69 Tryz.underlying5
    have HC := Lib.hid hc
    clear hk hl hf hc
    have hs2 : s.size ≤ 2500 := by omega
    clear hs h1
    go_enter Tryz.func23, Tryz.ntmps23
    go_wp2_with fail
    rw [HC.out]
    simp only [Result.andThen]
    rw [Oper.upon_value]
    have hB1 := Lib.bytesWorld_below w 5 s
    go_wp2_with fail
    have hcall := leading_byte (some ⟨w.heap.size, 0, none⟩) (grownCap w s.size 0 5) 42 #[] s.data.toList (fun _ c => M.okByte c) (Lib.bytesWorld w 5 s) (by rw [M.size_list]; omega) (Or.inr ⟨_, _, rfl, bytes_at w s⟩) enters_fault1
      (fun i hi w1 hB => (fault1_any i _ w1).mono (by rintro e w2 ⟨rfl, rfl⟩; exact ⟨rfl, Below.refl _ _⟩))
    rw [M.size_list, HL.out] at hcall
    refine hcall.mono ?_
    clear hcall
    rintro e w1 ⟨rfl, hB2⟩
    by_cases hlt : k < s.size
    · go_wp2_with fail
      go_ret2
      exact ⟨by rw [HF.out, if_pos hlt]; rfl, below2 hB1 hB2⟩
    · go_wp2_with fail
      go_ret2
      exact ⟨by rw [HF.out, if_neg hlt]; rfl, below2 hB1 hB2⟩

end Go.Proofs.YtamdcloahkacnaaGreatDoor
