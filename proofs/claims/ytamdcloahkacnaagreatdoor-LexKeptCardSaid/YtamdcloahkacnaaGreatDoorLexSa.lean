/- DERIVED. Contract of the document's own SameTokens. -/
import Derived.Test.YtamdcloahkacnaaGreatDoorLexRd
namespace Go.Proofs.YtamdcloahkacnaaGreatDoor
open Go.RowKit Go.WideMaps Go.Maps Go.Shelf

namespace M
def sameLx (l m : List Lx) : Bool := decide (l.length = m.length ∧ ∀ j, (h : j < l.length) → (h2 : j < m.length) → eqLx l[j] m[j] = true)
theorem eqLx_iff (a b : Lx) : eqLx a b = true ↔ a = b := by
  unfold eqLx
  rw [decide_eq_true_iff]
  constructor
  · rintro ⟨h1, h2, h3⟩
    obtain ⟨k, t, p⟩ := a
    obtain ⟨k', t', p'⟩ := b
    dsimp only at h1 h2 h3
    obtain ⟨⟨t⟩⟩ := t
    obtain ⟨⟨t'⟩⟩ := t'
    dsimp only at h2
    subst h1 h2 h3
    rfl
  · rintro rfl; exact ⟨rfl, rfl, rfl⟩
theorem sameLx_iff (l m : List Lx) : sameLx l m = true ↔ l = m := by
  unfold sameLx
  rw [decide_eq_true_iff]
  constructor
  · rintro ⟨h1, h2⟩
    exact List.ext_getElem h1 fun j a b => (eqLx_iff _ _).1 (h2 j a b)
  · rintro rfl; exact ⟨rfl, fun j h h2 => (eqLx_iff _ _).2 rfl⟩
end M

set_option maxHeartbeats 1000000 in
set_option maxRecDepth 100000 in
theorem sameTokens_any (a a' : Option Addr) (c c' : Nat) (l m : List M.Lx) (w : World) (hl : l.length ≤ 1000000) (_hl' : m.length ≤ 1000000) (ho : LxSl w a l) (hn : LxSl w a' m) :
    Calls Tryz.prog 10 #[.slice a l.length c, .slice a' m.length c'] w fun e w' => e = .returned (.bool (M.sameLx l m)) ∧ Below w.heap.size w w' := by
  have HO := Lib.hid ho
  have HN := Lib.hid hn
  clear ho hn
  by_cases hlen : l.length = m.length
  · have h1 : ((l.length : Int) == (m.length : Int)) = true := by rw [hlen]; exact beq_self_eq_true _
    have h2 : ((l.length : Int) != (m.length : Int)) = false := by rw [hlen]; exact bne_self_eq_false _
    have HLEN := Lib.hid hlen
    clear hlen
    go_enter Tryz.func10, Tryz.ntmps10
    go_wp2_with fail
    go_loopw [5] (fun i wr => ∃ k : Nat, k ≤ l.length ∧ i = .int .i64 k ∧ (∀ j, (h : j < l.length) → (h2 : j < m.length) → j < k → M.eqLx l[j] m[j] = true) ∧ Below w.heap.size w wr) (fun i _ => l.length - (intOf i).toNat)
    case atStart => exact ⟨0, by omega, rfl, fun j _ _ h => by omega, Below.refl _ _⟩
    case round =>
      rename_i wr
      obtain ⟨k, hk, rfl, hall, hB⟩ := hrel
      have HALL := Lib.hid hall
      clear hall
      by_cases hkl : k < l.length
      · have hkm : k < m.length := by rw [← HLEN.out]; exact hkl
        obtain ⟨b, off, rfl, ha⟩ := HO.out.at hkl
        obtain ⟨b', off', rfl, ha'⟩ := HN.out.at hkm
        have c0 := (ha.below hB).c0 k hkl
        have c1 := (ha.below hB).c1 k hkl
        have c2 := (ha.below hB).c2 k hkl
        have d0 := (ha'.below hB).c0 k hkm
        have d1 := (ha'.below hB).c1 k hkm
        have d2 := (ha'.below hB).c2 k hkm
        have n1 : (k : Int) < (l.length : Int) := by omega
        have n3 : (k : Int) < (m.length : Int) := by omega
        have n2 : (0 : Int) ≤ (k : Int) := by omega
        have hq := fun W => eqLx_run l[k] m[k] W
        clear ha ha'
        by_cases he : M.eqLx l[k] m[k] = true
        · rw [he] at hq
          go_wp2_with fail
          go_quiet (fail)
          go_wp2_with fail
          refine ⟨⟨k + 1, by omega, by simp, ?_, belowN hB _⟩, by simp [intOf]; omega⟩
          intro j q1 q2 hj
          rcases Nat.lt_succ_iff_lt_or_eq.1 hj with hj | rfl
          · exact HALL.out j q1 q2 hj
          · exact he
        · have he' : M.eqLx l[k] m[k] = false := by simpa using he
          rw [he'] at hq
          go_wp2_with fail
          go_quiet (fail)
          go_wp2_with fail
          go_ret
          refine ⟨ret_bool ?_, belowN hB _⟩
          symm
          unfold M.sameLx
          rw [decide_eq_false_iff_not]
          rintro ⟨_, q⟩
          have := q k hkl hkm
          rw [he'] at this
          exact Bool.noConfusion this
      · have hkl' : ¬ (k : Int) < (l.length : Int) := by omega
        go_wp2_with fail
        go_ret
        refine ⟨ret_bool ?_, hB⟩
        symm
        unfold M.sameLx
        rw [decide_eq_true_iff]
        exact ⟨HLEN.out, fun j q1 q2 => HALL.out j q1 q2 (by omega)⟩
  · have h1 : ((l.length : Int) == (m.length : Int)) = false := by rw [beq_eq_false_iff_ne]; omega
    have h2 : ((l.length : Int) != (m.length : Int)) = true := by rw [bne_iff_ne]; omega
    have hres : M.sameLx l m = false := by unfold M.sameLx; rw [decide_eq_false_iff_not]; rintro ⟨q, _⟩; exact hlen q
    go_enter Tryz.func10, Tryz.ntmps10
    go_wp2_with fail
    go_ret
    exact ⟨ret_bool hres.symm, Below.refl _ _⟩

end Go.Proofs.YtamdcloahkacnaaGreatDoor
