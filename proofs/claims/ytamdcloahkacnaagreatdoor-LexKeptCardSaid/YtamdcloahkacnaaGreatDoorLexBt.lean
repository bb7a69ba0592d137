/- DERIVED. Contracts of slices.Grow (of nothing) and slices.Concat over tokens. -/
import Derived.Test.YtamdcloahkacnaaGreatDoorLexBi
import Derived.Lib.AppendZeros
namespace Go.Proofs.YtamdcloahkacnaaGreatDoor
open Go.RowKit Go.WideMaps Go.Maps Go.Shelf

set_option maxHeartbeats 1000000 in
set_option maxRecDepth 100000 in
theorem grow_any (n : Nat) (w : World) (hn : n ≤ 1000000) :
    Calls Tryz.prog 36 #[.slice none 0 0, .int .i64 n] w fun e w' => ∃ v, e = .returned v ∧ w'.ownsRow w.heap.size 42 3 v 0 [] ∧ Below w.heap.size w w' := by
  by_cases h0 : 0 < n
  · obtain ⟨i0, hi, hz0, hz1, hz2⟩ := info_parts lxInfo
    have happ := Lib.run_append_nil_zeros (P := Tryz.prog) w 22 3 22 42 i0 (.agg #[.int .u8 0, .string ⟨#[]⟩, .int .i64 0]) .i64 .i64 Tryz.underlying22 Tryz.underlying3 hi hz0 n h0 (by rw [hz1]; decide) (by omega) (by rw [hz2]; omega)
    generalize hcap : grownCap w n 0 42 = cap2 at happ
    have hcapge : n ≤ cap2 := by rw [← hcap]; exact grownCap_ge w _ 0 42
    have hcaple : cap2 ≤ maxLen := by rw [← hcap]; exact grownCap_le_maxLen w _ 0 42 (by unfold maxLen; omega)
    generalize hZ : (Builtin.zeroCells (Value.agg #[.int .u8 0, .string ⟨#[]⟩, .int .i64 0]).cells n ++ Builtin.zeroCells (Value.agg #[.int .u8 0, .string ⟨#[]⟩, .int .i64 0]).cells (cap2 - n)) = Z at happ
    have hZs : Z.size = cap2 * 3 := by rw [← hZ]; simp [size_zeroCells, Value.cells]; omega
    have hO : (w.alloc (.cells Z 42)).ownsRow w.heap.size 42 3 (.slice (some ⟨w.heap.size, 0, none⟩) 0 cap2) 0 [] := World.ownsRow_made w Z cap2 (Nat.le_refl _) hcaple hZs
    have HO := Lib.hid hO
    clear hcap hZ hi hz0 hz1 hz2 hO
    have q1 : (0 : Int) < (n : Int) := by omega
    go_enter Tryz.func36, Tryz.ntmps36
    go_wp2_with (at_builtin; refine Lib.wpList_append_run _ rfl _ _ _ _ rfl _ _ rfl rfl _ _ happ ?_)
    go_ret
    exact ⟨_, rfl, HO.out, belowN (below1 _ _) 1⟩
  · obtain rfl : n = 0 := by omega
    go_enter Tryz.func36, Tryz.ntmps36
    go_wp2_with fail
    go_ret
    exact ⟨_, rfl, World.ownsRow_nil _ _ _ _, Below.refl _ _⟩

/-- A row of lists of tokens. -/
structure PartsAt (w : World) (B : Nat) (ps : List (List M.Lx)) : Prop where
  lt : B < w.heap.size
  at_ : ∀ i, (h : i < ps.length) → ∃ a c, w.cell? ⟨B, i, none⟩ = some (.slice a ps[i].length c) ∧ (a = none → c = 0) ∧ LxSl w a ps[i]
theorem PartsAt.below {w w' : World} {B : Nat} {ps : List (List M.Lx)} (h : PartsAt w B ps) (hB : Below w.heap.size w w') : PartsAt w' B ps :=
  ⟨Nat.lt_of_lt_of_le h.lt hB.size, fun i hi => by
    obtain ⟨a, c, h1, h2, h3⟩ := h.at_ i hi
    exact ⟨a, c, cell_below h1 hB, h2, h3.below hB⟩⟩
theorem own_base {w : World} {b b' : Nat} {e : TypeId} {size : Nat} {v : Value} {n : Nat} {xs : List Value} (h : w.ownsRow b e size v n xs) (hb : b' ≤ b) : w.ownsRow b' e size v n xs := by
  refine ⟨h.1, ?_⟩
  rcases h.2 with h | ⟨g, cap, cur, rfl, h1, h2⟩
  · exact Or.inl h
  · exact Or.inr ⟨g, cap, cur, rfl, Nat.le_trans hb h1, h2⟩
theorem flat_next (ps : List (List M.Lx)) (k : Nat) (h : k < ps.length) : (ps.take (k + 1)).flatten = (ps.take k).flatten ++ ps[k] := by
  rw [List.take_succ_eq_append_getElem h, List.flatten_append]; simp
theorem flat_le (ps : List (List M.Lx)) (k : Nat) : (ps.take k).flatten.length ≤ ps.flatten.length := by
  have := congrArg (fun l => (List.flatten l).length) (List.take_append_drop k ps)
  simp only [List.flatten_append, List.length_append] at this
  omega

set_option maxHeartbeats 2000000 in
set_option maxRecDepth 100000 in
theorem concat_any (B c : Nat) (ps : List (List M.Lx)) (w : World) (hl : ps.length ≤ 1000) (hs : ps.flatten.length ≤ 1000000) (hp : PartsAt w B ps) :
    Calls Tryz.prog 17 #[.slice (some ⟨B, 0, none⟩) ps.length c] w fun e w' => ∃ v, e = .returned v ∧ w'.ownsRow w.heap.size 42 3 v ps.flatten.length (lxCells ps.flatten) ∧ Below w.heap.size w w' := by
  have HP := Lib.hid hp
  have hBlt := hp.lt
  obtain ⟨L, hL⟩ : ∃ L, ps.flatten = L := ⟨_, rfl⟩
  rw [hL] at hs ⊢
  have HL := Lib.hid hL
  clear hp hL
  go_enter Tryz.func17, Tryz.ntmps17
  go_wp2_with fail
  go_loopw [11, 3] (fun i v wr => ∃ k : Nat, k ≤ ps.length ∧ i = .int .i64 k ∧ v = .int .i64 ((ps.take k).flatten.length : Nat) ∧ Below w.heap.size w wr) (fun i _ _ => ps.length - (intOf i).toNat)
  case atStart => exact ⟨0, by omega, rfl, rfl, Below.refl _ _⟩
  case round =>
    rename_i wr
    obtain ⟨k, hk, rfl, rfl, hB⟩ := hrel
    by_cases hkl : k < ps.length
    · obtain ⟨a, ca, hc, _, _⟩ := (HP.out.below hB).at_ k hkl
      obtain ⟨S, hS⟩ : ∃ S, (ps.take k).flatten.length = S := ⟨_, rfl⟩
      obtain ⟨n, hn⟩ : ∃ n, ps[k].length = n := ⟨_, rfl⟩
      have hS2 : (ps.take (k + 1)).flatten.length = S + n := by rw [flat_next ps k hkl, List.length_append, hS, hn]
      have hle : S + n ≤ 1000000 := by rw [← hS2]; rw [← HL.out] at hs; exact Nat.le_trans (flat_le ps (k + 1)) hs
      have HS2 := Lib.hid hS2
      rw [hn] at hc
      rw [hS]
      clear hS hn hS2
      have n1 : (k : Int) < (ps.length : Int) := by omega
      have n2 : (0 : Int) ≤ (k : Int) := by omega
      have n3 : (0 : Int) ≤ (S : Int) + (n : Int) := by omega
      have n4 : (S : Int) + (n : Int) ≤ 1000000 := by omega
      have n5 : decide ((S : Int) + (n : Int) < 0) = false := decide_eq_false (by omega)
      go_wp2_with fail
      go_roundw
      case rel => exact ⟨k + 1, hkl, rfl, by rw [HS2.out]; rfl, hB⟩
      case measure => simp [intOf]; omega
    · obtain rfl : k = ps.length := by omega
      rw [List.take_length, HL.out]
      have m1 : decide ((ps.length : Int) < (ps.length : Int)) = false := decide_eq_false (by omega)
      go_wp2_with fail
      refine (grow_any L.length _ hs).mono ?_
      rintro e w1 ⟨v1, rfl, ho1, hB1⟩
      have HO1 := Lib.hid (own_base ho1 hB.size)
      have hB2 := below2 hB hB1
      clear ho1 hB1
      obtain ⟨av, ac, rfl⟩ := own_slice HO1.out
      go_wp2_with fail
      go_loopw [27, 6] (fun i v wo => ∃ (k : Nat) (acc : List M.Lx), k ≤ ps.length ∧ i = .int .i64 k ∧ Hid ((ps.take k).flatten = acc) ∧ wo.ownsRow w.heap.size 42 3 v acc.length (lxCells acc) ∧ Below w.heap.size w wo) (fun i _ _ => ps.length - (intOf i).toNat)
      case atStart => exact ⟨0, [], by omega, rfl, Lib.hid rfl, HO1.out, hB2⟩
      case round =>
        rename World => wo
        obtain ⟨k, acc, hk, rfl, HA, ho, hB3⟩ := hrel
        have HO := Lib.hid ho
        clear ho
        by_cases hkl : k < ps.length
        · obtain ⟨a, ca, hc, hnil, hsl⟩ := (HP.out.below hB3).at_ k hkl
          have HSL := Lib.hid hsl
          obtain ⟨nx, hnx⟩ : ∃ nx, ps[k] = nx := ⟨_, rfl⟩
          rw [hnx] at hc HSL
          have hfl : (ps.take (k + 1)).flatten = acc ++ nx := by rw [flat_next ps k hkl, HA.out, hnx]
          have hle : acc.length + nx.length ≤ 1000000 := by
            have h1 := flat_le ps (k + 1)
            rw [hfl, List.length_append, HL.out] at h1
            omega
          have HFL := Lib.hid hfl
          clear hnx hfl
          clear hsl
          obtain ⟨bv, bc, rfl⟩ := own_slice HO.out
          have n1 : (k : Int) < (ps.length : Int) := by omega
          have n2 : (0 : Int) ≤ (k : Int) := by omega
          have hzr := hB3.size
          go_wp2_with (at_builtin; refine app_lx rfl _ _ rfl w.heap.size (.slice bv acc.length bc) acc rfl HO.out a ca nx nx.length rfl rfl hnil HSL.out ?c1 hzr ?_)
          case c1 => exact hle
          intro v' w' hown hgrow
          have hB4 := hB3.grown hgrow hzr (fun j hj => (HO.out.lt j hj).1)
          have HOW := Lib.hid hown
          clear hown hgrow
          obtain ⟨cv, cc, rfl⟩ := own_slice HOW.out
          go_wp2_with fail
          go_roundw
          case rel => exact ⟨k + 1, acc ++ nx, hkl, rfl, HFL, by rw [List.length_append]; exact HOW.out, hB4⟩
          case measure => simp [intOf]; omega
        · obtain rfl : k = ps.length := by omega
          have hacc : acc = L := by rw [← HA.out, List.take_length, HL.out]
          subst hacc
          obtain ⟨bv, bc, rfl⟩ := own_slice HO.out
          go_wp2_with fail
          go_ret
          exact ⟨_, rfl, HO.out, hB3⟩

end Go.Proofs.YtamdcloahkacnaaGreatDoor
