/- DERIVED. Contract of the iterator over the places of a text. -/
import Derived.Test.YtamdcloahkacnaaDoorLexCb
import Derived.Test.YtamdcloahkacnaaDoorLexTo
import Derived.Test.YtamdcloahkacnaaDoorLexR
namespace Go.Proofs.YtamdcloahkacnaaDoor
open Go.RowKit Go.WideMaps Go.Maps Go.Shelf

set_option maxHeartbeats 1000000 in
set_option maxRecDepth 100000 in
theorem places_any (s : ByteArray) (w : World) :
    Calls Tryd.prog 18 #[.string s] w fun e w' => e = .returned (.func (.func 35) #[] #[.pointer (some ⟨w.heap.size, 0, none⟩)]) ∧ w' = w.alloc (.cells #[.string s] 9) := by
  go_enter Tryd.func18, Tryd.ntmps18
  go_wp2
  go_ret
  exact ⟨rfl, rfl⟩
theorem enters_places1 : ∀ args w, (callFunc 35 args).run Tryd.prog w = .ok (.enter 35 args) w := enters_of Tryd.func35 (by kernel_rfl) rfl

/-- The places of a text of n bytes. -/
abbrev Plc (n : Nat) := { k : Nat // k ≤ n }
/-- The box of line and column. -/
structure WhBox (W : World) (B : Nat) (v : Int × Int) : Prop where
  c0 : W.cell? ⟨B, 0, none⟩ = some (.int .i64 v.1)
  c1 : W.cell? ⟨B, 1, none⟩ = some (.int .i64 v.2)
  f0 : W.frozen? ⟨B, 0, none⟩ = false
  f1 : W.frozen? ⟨B, 1, none⟩ = false
  lt : B < W.heap.size
theorem WhBox.kept {W W' : World} {B l : Nat} {v : Int × Int} (h : WhBox W B v) (hk : KeptBut l W W') (hl : B ≠ l) : WhBox W' B v := by
  have e := hk.block B h.lt hl
  exact ⟨(World.cell?_of_block (w := W) (a := ⟨B, 0, none⟩) e).trans h.c0, (World.cell?_of_block (w := W) (a := ⟨B, 1, none⟩) e).trans h.c1, (World.frozen?_of_block (w := W) (a := ⟨B, 0, none⟩) e).trans h.f0, (World.frozen?_of_block (w := W) (a := ⟨B, 1, none⟩) e).trans h.f1, Nat.lt_of_lt_of_le h.lt hk.size⟩

attribute [local go_sem] Oper.semAt_some

set_option maxHeartbeats 2000000 in
set_option maxRecDepth 100000 in
theorem places_stops (n b : Nat) (s : ByteArray) (w : World) (hn : 1 ≤ n) (hs : s.size ≤ 1000000) (hb : b < w.heap.size) (hc : w.cell? ⟨b, 0, none⟩ = some (.string s)) :
    SeqFree Fence.wide n Tryd.prog 35 #[.pointer (some ⟨b, 0, none⟩)] (fun k : Plc s.size => #[.int .i64 k.1, whV (M.lc s.data.toList k.1)]) (fun xs => xs.map (·.1) = List.range (s.size + 1)) (s.size + 1) w := fun l J Jx W hW hl1 hl2 hJ hJx hY h0 => by
  have hcW : W.cell? ⟨b, 0, none⟩ = some (.string s) := by rw [hW.cell hb]; exact hc
  have hbW : b < W.heap.size := Nat.lt_of_lt_of_le hb hW.size
  have hlc0 := M.lc_zero s.data.toList
  refine callsIn_of_wp Tryd.func35 rfl trivial ?_ rfl
  simp only [Tryd.ntmps35, List.size_toArray, List.length_cons, List.length_nil, Nat.reduceAdd, Nat.reduceSub, Array.replicate_succ, Array.replicate_zero, List.push_toArray, List.append_toArray, List.nil_append, List.cons_append]
  have HJ0 := Lib.hid (hJ [] W (W.alloc (.cells #[.int .i64 1, .int .i64 1] 23)) (Nat.le_refl _) h0 (below1 W _))
  have HY := Lib.hid hY
  have HLC0 := Lib.hid hlc0
  have HJJ := Lib.hid hJ
  clear hJ hJx hY h0 hlc0
  gi_wp2_with fail
  gi_loopw [8] (fun i wr => ∃ (k : Nat) (pre : List (Plc s.size)), i = .int .i64 k ∧ k ≤ s.size ∧ Hid (pre.map (·.1) = List.range k) ∧ Hid (J pre wr) ∧ wr.cell? ⟨b, 0, none⟩ = some (.string s) ∧ WhBox wr W.heap.size (M.lc s.data.toList k)) (fun i _ => s.size - (intOf i).toNat)
  case atStart =>
    refine ⟨0, [], rfl, by omega, Lib.hid rfl, HJ0, by rw [World.cell?_alloc_lt _ _ _ hbW]; exact hcW, ?_⟩
    rw [HLC0.out]
    have hc : ∀ j, (W.alloc (.cells #[.int .i64 1, .int .i64 1] 23)).cell? ⟨W.heap.size, j, none⟩ = (#[Value.int .i64 1, .int .i64 1] : Array Value)[j]? := fun j => World.cell?_alloc_at _ _ _ _ rfl
    exact ⟨by rw [hc]; rfl, by rw [hc]; rfl, World.frozen?_alloc_new _ _ _ _, World.frozen?_alloc_new _ _ _ _, by simp⟩
  case round =>
    rename_i wr
    obtain ⟨k, pre, rfl, hk, HP, HJ, hcr, hbx⟩ := hrel
    have hpl : pre.length = k := by have := congrArg List.length HP.out; rw [List.length_map, List.length_range] at this; exact this
    have HPL := Lib.hid hpl
    clear hpl
    have hzr : W.heap.size ≤ wr.heap.size := Nat.le_of_lt hbx.lt
    obtain ⟨c0, c1, f0, f1, hlt⟩ := hbx
    obtain ⟨b1, b2, b3, b4⟩ := M.lc_bound s.data.toList k (by rw [M.size_list]; exact hk)
    have hbox := WhBox.mk c0 c1 f0 f1 hlt
    obtain ⟨v, hv⟩ : ∃ v, M.lc s.data.toList k = v := ⟨_, rfl⟩
    by_cases hks : k < s.size
    · obtain ⟨fn, tmps, assign, body, hy, hR⟩ := HY.out pre ⟨k, hk⟩ wr hzr HJ.out (by rw [HPL.out]; omega)
      have hsucc := M.lc_succ s.data.toList k (by rw [M.size_list]; exact hks)
      dsimp only at hy
      rw [hv] at hy hbox c0 c1 b1 b2 b3 b4 hsucc
      have HS := Lib.hid hsucc
      have HBX := Lib.hid hbox
      clear hsucc hv hbox
      obtain ⟨v1, v2⟩ := v
      dsimp only at c0 c1 b1 b2 b3 b4 hy
      gi_wp2_with fail
      refine hR.mono ?_
      rintro e W' (⟨rfl, hJ', hkp⟩ | ⟨rfl, hJx', hz'⟩)
      · have hbx' := HBX.out.kept hkp (by omega)
        have hc' : W'.cell? ⟨b, 0, none⟩ = some (.string s) := (World.cell?_of_block (w := wr) (a := ⟨b, 0, none⟩) (hkp.block b (by omega) (by omega))).trans hcr
        have hp2 : (pre ++ [(⟨k, hk⟩ : Plc s.size)]).map (·.1) = List.range (k + 1) := by rw [List.map_append, HP.out, List.range_succ]; rfl
        have HP2 := Lib.hid hp2
        clear hp2
        obtain ⟨c0', c1', f0', f1', hlt'⟩ := hbx'
        dsimp only at c0' c1'
        have HJ' := Lib.hid hJ'
        have hzz := hkp.size
        clear hJ' hkp hR hy c0 c1 f0 f1 hcr HJ
        obtain ⟨ch, hch⟩ : ∃ ch, s[k]'hks = ch := ⟨_, rfl⟩
        have hst : s.data.toList[k]'(by rw [M.size_list]; exact hks) = ch := hch
        rw [hst] at HS
        have hzl : W.heap.size ≤ W'.heap.size := by omega
        by_cases h10 : ch.toNat = 10
        · have e1 : (((ch.toNat : Nat) : Int) == 10) = true := by rw [h10]; rfl
          have hsp : M.step (v1, v2) ch = (v1 + 1, 1) := by unfold M.step; rw [if_pos (UInt8.toNat_inj.1 h10)]
          have HSP := Lib.hid hsp
          clear hsp hst
          gi_wp2_with fail
          refine ⟨⟨k + 1, pre ++ [⟨k, hk⟩], by simp, by omega, HP2, ?_, ?_, ?_, ?_, ?_, ?_, ?_⟩, by simp [intOf]; omega⟩
          · exact Lib.hid (HJJ.out _ _ _ hzl HJ'.out ((((Below.refl _ _).setCell (p := ⟨W.heap.size, 1, none⟩) (Nat.le_refl _) _).setCell (p := ⟨W.heap.size, 0, none⟩) (Nat.le_refl _) _).setCell (p := ⟨W.heap.size, 1, none⟩) (Nat.le_refl _) _))
          · rw [World.cell?_setCell_far _ _ _ _ (by show W.heap.size ≠ b; omega), World.cell?_setCell_far _ _ _ _ (by show W.heap.size ≠ b; omega), World.cell?_setCell_far _ _ _ _ (by show W.heap.size ≠ b; omega)]; exact hc'
          · rw [HS.out, HSP.out]; simp [go_sem, c0']
          · rw [HS.out, HSP.out]; simp [go_sem, c1']
          · simp [f0']
          · simp [f1']
          · simpa using hlt'
        · have e1 : (((ch.toNat : Nat) : Int) == 10) = false := by rw [beq_eq_false_iff_ne]; omega
          have hsp : M.step (v1, v2) ch = (v1, v2 + 1) := by unfold M.step; rw [if_neg (fun q => h10 (by rw [q]; rfl))]
          have HSP := Lib.hid hsp
          clear hsp hst
          gi_wp2_with fail
          refine ⟨⟨k + 1, pre ++ [⟨k, hk⟩], by simp, by omega, HP2, ?_, ?_, ?_, ?_, ?_, ?_, ?_⟩, by simp [intOf]; omega⟩
          · exact Lib.hid (HJJ.out _ _ _ hzl HJ'.out ((Below.refl _ _).setCell (p := ⟨W.heap.size, 1, none⟩) (Nat.le_refl _) _))
          · rw [World.cell?_setCell_far _ _ _ _ (by show W.heap.size ≠ b; omega)]; exact hc'
          · rw [HS.out, HSP.out]; simp [go_sem, c0']
          · rw [HS.out, HSP.out]; simp [go_sem, c1']
          · simp [f0']
          · simp [f1']
          · simpa using hlt'
      · have HJX := Lib.hid hJx'
        clear hJx' hR hy
        gi_wp2_with fail
        refine bodyPost_ret (results_none rfl _ _ _) rfl ?_
        exact ⟨⟨_, rfl⟩, by omega, .inr ⟨_, HJX.out⟩⟩
    · obtain rfl : k = s.size := by omega
      obtain ⟨fn, tmps, assign, body, hy, hR⟩ := HY.out pre ⟨s.size, hk⟩ wr hzr HJ.out (by rw [HPL.out]; omega)
      dsimp only at hy
      rw [hv] at hy c0 c1
      obtain ⟨v1, v2⟩ := v
      dsimp only at c0 c1 hy
      clear hv hbox
      gi_wp2_with fail
      refine hR.mono ?_
      rintro e W' (⟨rfl, hJ', hkp⟩ | ⟨rfl, hJx', hz'⟩)
      · have hp2 : (pre ++ [(⟨s.size, hk⟩ : Plc s.size)]).map (·.1) = List.range (s.size + 1) := by rw [List.map_append, HP.out, List.range_succ]; rfl
        have HP2 := Lib.hid hp2
        have HJ' := Lib.hid hJ'
        have hzz := hkp.size
        clear hJ' hkp hR hy hp2
        gi_wp2_with fail
        go_end0
        exact ⟨⟨_, rfl⟩, by omega, .inl ⟨_, HP2.out, HJ'.out⟩⟩
      · have HJX := Lib.hid hJx'
        clear hJx' hR hy
        gi_wp2_with fail
        go_end0
        exact ⟨⟨_, rfl⟩, by omega, .inr ⟨_, HJX.out⟩⟩
end Go.Proofs.YtamdcloahkacnaaDoor
