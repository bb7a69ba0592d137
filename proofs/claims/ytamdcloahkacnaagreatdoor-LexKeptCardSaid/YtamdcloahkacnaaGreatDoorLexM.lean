/- DERIVED. Plain definitions and lemmas of layer 1 (texts, tokens, edits): nothing of a dump. -/
namespace Go.Proofs.YtamdcloahkacnaaGreatDoor.M

/-- A string with given bytes. -/
def str (l : List UInt8) : ByteArray := ⟨l.toArray⟩
@[simp] theorem str_list (l : List UInt8) : (str l).data.toList = l := rfl
theorem list_str (s : ByteArray) : str s.data.toList = s := by cases s with | mk d => show ByteArray.mk d.toList.toArray = ⟨d⟩; rw [Array.toArray_toList]
theorem str_size (l : List UInt8) : (str l).size = l.length := rfl
theorem size_list (s : ByteArray) : s.data.toList.length = s.size := Array.length_toList
theorem ba_ext {a b : ByteArray} (h : a.data.toList = b.data.toList) : a = b := by rw [← list_str a, ← list_str b, h]

/-- The class of a byte: 0 other, 1 letter, 2 digit, 3 gap. -/
def cls (c : UInt8) : Nat := if 97 ≤ c.toNat ∧ c.toNat ≤ 122 then 1 else if 48 ≤ c.toNat ∧ c.toNat ≤ 57 then 2 else if c.toNat = 32 ∨ c.toNat = 10 then 3 else 0
theorem cls_le (c : UInt8) : cls c ≤ 3 := by unfold cls; (repeat' split) <;> omega

/-- How many of the first elements are as is asked, counted from i on. -/
def leadI {α : Type} (p : Nat → α → Bool) : Nat → List α → Nat
  | i, [] => i
  | i, x :: l => if p i x = true then leadI p (i + 1) l else i
theorem leadI_ge {α : Type} (p : Nat → α → Bool) (l : List α) : ∀ i, i ≤ leadI p i l := by
  induction l with
  | nil => intro i; simp [leadI]
  | cons x l ih => intro i; unfold leadI; split; · have := ih (i + 1); omega
                   · omega
theorem leadI_le {α : Type} (p : Nat → α → Bool) (l : List α) : ∀ i, leadI p i l ≤ i + l.length := by
  induction l with
  | nil => intro i; simp [leadI]
  | cons x l ih => intro i; unfold leadI; simp only [List.length_cons]; split; · have := ih (i + 1); omega
                   · omega
theorem leadI_stop {α : Type} (p : Nat → α → Bool) (l : List α) : ∀ i k, (hk : k < l.length) → (∀ j (h : j < k), p (i + j) l[j] = true) → p (i + k) l[k] = false → leadI p i l = i + k := by
  induction l with
  | nil => intro i k hk; simp at hk
  | cons x l ih =>
    intro i k hk hb hs
    unfold leadI
    cases k with
    | zero => simp at hs; simp [hs]
    | succ k =>
      have h0 := hb 0 (by omega)
      simp only [Nat.add_zero, List.getElem_cons_zero] at h0
      rw [if_pos h0, ih (i + 1) k (by simpa using hk) (fun j hj => by have := hb (j + 1) (by omega); simpa [Nat.add_assoc, Nat.add_comm, Nat.add_left_comm] using this) (by simpa [Nat.add_assoc, Nat.add_comm, Nat.add_left_comm] using hs)]
      omega
theorem leadI_all {α : Type} (p : Nat → α → Bool) (l : List α) : ∀ i, (∀ j (h : j < l.length), p (i + j) l[j] = true) → leadI p i l = i + l.length := by
  induction l with
  | nil => intro i _; simp [leadI]
  | cons x l ih =>
    intro i hb
    unfold leadI
    have h0 := hb 0 (by simp)
    simp only [Nat.add_zero, List.getElem_cons_zero] at h0
    rw [if_pos h0, ih (i + 1) (fun j hj => by have := hb (j + 1) (by simpa using hj); simpa [Nat.add_assoc, Nat.add_comm, Nat.add_left_comm] using this)]
    simp; omega
/-- What stands before the first element that is not as is asked is as is asked. -/
theorem leadI_before {α : Type} (p : Nat → α → Bool) (l : List α) : ∀ i k, (hk : k < l.length) → i + k < leadI p i l → p (i + k) l[k] = true := by
  induction l with
  | nil => intro i k hk; simp at hk
  | cons x l ih =>
    intro i k hk h
    unfold leadI at h
    split at h
    · rename_i h0
      cases k with
      | zero => simpa using h0
      | succ k => have := ih (i + 1) k (by simpa using hk) (by omega); simpa [Nat.add_assoc, Nat.add_comm, Nat.add_left_comm] using this
    · omega
theorem leadI_at {α : Type} (p : Nat → α → Bool) (l : List α) : ∀ i k, (hk : k < l.length) → leadI p i l = i + k → p (i + k) l[k] = false := by
  induction l with
  | nil => intro i k hk; simp at hk
  | cons x l ih =>
    intro i k hk h
    unfold leadI at h
    split at h
    · have := leadI_ge p l (i + 1)
      cases k with
      | zero => omega
      | succ k => have := ih (i + 1) k (by simpa using hk) (by omega); simpa [Nat.add_assoc, Nat.add_comm, Nat.add_left_comm] using this
    · rename_i h0
      cases k with
      | zero => simpa using h0
      | succ k => omega

/-- Where the longest stretch of bytes of some classes ends that begins at a place. -/
def behind (some : List Nat) (s : List UInt8) (at_ : Nat) : Nat := at_ + leadI (fun _ c => some.contains (cls c)) 0 (s.drop at_)
theorem behind_ge (some : List Nat) (s : List UInt8) (k : Nat) : k ≤ behind some s k := by unfold behind; omega
theorem behind_le (some : List Nat) (s : List UInt8) (k : Nat) (h : k ≤ s.length) : behind some s k ≤ s.length := by
  unfold behind
  have := leadI_le (fun _ c => some.contains (cls c)) (s.drop k) 0
  simp only [List.length_drop] at this; omega

theorem behind_in (some : List Nat) (s : List UInt8) (k : Nat) (c : UInt8) (h : c ∈ (s.take (behind some s k)).drop k) : some.contains (cls c) = true := by
  unfold behind at h
  rw [List.drop_take, Nat.add_sub_cancel_left] at h
  obtain ⟨j, hj, e⟩ := List.getElem_of_mem h
  rw [List.length_take] at hj
  have := leadI_before (fun _ c => some.contains (cls c)) (s.drop k) 0 j (by omega) (by omega)
  rw [List.getElem_take] at e
  rw [← e]; exact this
theorem behind_gt (some : List Nat) (s : List UInt8) (k : Nat) (hk : k < s.length) (h : some.contains (cls s[k]) = true) : k < behind some s k := by
  unfold behind
  rw [List.drop_eq_getElem_cons hk]
  unfold leadI
  rw [if_pos h]
  have := leadI_ge (fun _ c => some.contains (cls c)) (s.drop (k + 1)) (0 + 1)
  omega
theorem cls_dig (c : UInt8) (h : cls c = 2) : 48 ≤ c.toNat ∧ c.toNat ≤ 57 := by
  unfold cls at h
  split at h
  · cases h
  · split at h
    · assumption
    · split at h <;> cases h

/-- The place of the first byte of a text that it must not have, or its length. -/
def okByte (c : UInt8) : Bool := c.toNat == 10 || (decide (32 ≤ c.toNat) && decide (c.toNat ≤ 126))
def badAt (s : List UInt8) : Nat := leadI (fun _ c => okByte c) 0 s
/-- The first error of a text: its place, and its code. -/
def fault (s : List UInt8) : Nat × Nat := if 2500 < s.length then (0, 5) else if badAt s < s.length then (badAt s, 4) else (0, 0)

/-- A token: its kind, its text, its place. -/
structure Lx where
  kind : Int
  text : ByteArray
  pos : Int
def kwords : List (List UInt8) := [[97, 108, 108], [97, 115], [101, 97, 99, 104], [101, 108, 115, 101], [102, 97, 105, 108], [102, 108, 97, 103], [102, 114, 101, 101, 122, 101], [104, 97, 115], [105, 102], [105, 110, 116], [108, 97, 116, 116, 105, 99, 101], [108, 101, 116], [109, 97, 112], [109, 97, 120], [110, 101, 119], [111, 110], [111, 110, 99, 101], [111, 114], [112, 97, 105, 114], [112, 117, 116], [115, 101, 116], [115, 104, 97, 114, 101], [115, 105, 122, 101], [115, 112, 97, 119, 110], [116, 97, 115, 107], [117, 115, 101], [118, 97, 108, 117, 101], [119, 104, 101, 110]]
def signs : List (List UInt8) := [[61, 61], [33, 61], [60, 61], [62, 61], [60], [62], [61], [43], [45], [42], [47], [33], [35], [40], [41], [91], [93], [123], [125], [44], [59], [58]]
theorem kw_short : ∀ i, (h : i < kwords.length) → kwords[i].length ≤ 7 := by decide
theorem sg_short : ∀ i, (h : i < signs.length) → signs[i].length ≤ 2 := by decide
def wordKind (t : List UInt8) : Nat := if kwords.contains t = true then 3 else if t.length ≤ 12 then 1 else 0
def numVal (t : List UInt8) : Nat := t.foldl (fun n c => n * 10 + (c.toNat - 48)) 0
def numberKind (t : List UInt8) : Nat := if 1000000000 < numVal t ∨ (t.head? = some 48 ∧ t ≠ [48]) then 0 else 2
def sign (s : List UInt8) : List UInt8 := (signs.find? fun g => g.isPrefixOf s).getD []
def signKind (t : List UInt8) : Nat := if t = [] then 0 else 4
theorem find_lead {α : Type} (q : α → Bool) (l : List α) : ∀ i k, leadI (fun _ x => !q x) i l = i + k → l.find? q = l[k]? := by
  induction l with
  | nil => intro i k _; simp
  | cons x l ih =>
    intro i k h
    unfold leadI at h
    cases hq : q x
    · rw [if_pos (by simp [hq])] at h
      have := leadI_ge (fun _ x => !q x) l (i + 1)
      obtain ⟨k, rfl⟩ : ∃ m, k = m + 1 := ⟨k - 1, by omega⟩
      rw [List.find?_cons_of_neg (by simp [hq]), ih (i + 1) k (by omega)]; simp
    · rw [if_neg (by simp [hq])] at h
      obtain rfl : k = 0 := by omega
      rw [List.find?_cons_of_pos hq]; simp
theorem sign_at (s : List UInt8) (k : Nat) (h : leadI (fun _ g => !g.isPrefixOf s) 0 signs = k) : sign s = (signs[k]?).getD [] := by
  unfold sign; rw [find_lead (fun g => g.isPrefixOf s) signs 0 k (by omega)]

/-- The text of the token that begins at a place, and its kind (0: there is none). -/
def tokText (s : List UInt8) (k : Nat) : List UInt8 :=
  match cls (s.getD k 0) with
  | 1 => (s.take (behind [1, 2] s k)).drop k
  | 2 => (s.take (behind [2] s k)).drop k
  | _ => sign (s.drop k)
def tokKind (s : List UInt8) (k : Nat) : Nat :=
  match cls (s.getD k 0) with
  | 1 => wordKind (tokText s k)
  | 2 => numberKind (tokText s k)
  | _ => signKind (tokText s k)
def token (s : List UInt8) (k : Nat) : Option Lx := if tokKind s k = 0 then none else some ⟨tokKind s k, str (tokText s k), k⟩

end Go.Proofs.YtamdcloahkacnaaGreatDoor.M
