/- Comparing is an order: what ValOrders asks of cmpR and cmpE. -/
import Derived.Test.YtfgadkknfehkcaaDoorCmp
namespace Go.Proofs.YtfgadkknfehkcaaDoor

theorem cmpB_bd (a b : List UInt8) : Lib.compareBytes a b = -1 ∨ Lib.compareBytes a b = 0 ∨ Lib.compareBytes a b = 1 := by
  induction a generalizing b with
  | nil => cases b <;> simp [Lib.compareBytes]
  | cons x xs ih =>
    cases b with
    | nil => simp [Lib.compareBytes]
    | cons y ys =>
      simp only [Lib.compareBytes]
      split
      · simp
      · split
        · simp
        · exact ih ys
theorem cmpB_flip (a b : List UInt8) : Lib.compareBytes b a = -Lib.compareBytes a b := by
  induction a generalizing b with
  | nil => cases b <;> simp [Lib.compareBytes]
  | cons x xs ih =>
    cases b with
    | nil => simp [Lib.compareBytes]
    | cons y ys =>
      simp only [Lib.compareBytes, UInt8.lt_iff_toNat_lt]
      by_cases h1 : x.toNat < y.toNat
      · rw [if_neg (by omega), if_pos h1, if_pos h1]; rfl
      · by_cases h2 : y.toNat < x.toNat
        · rw [if_pos h2, if_neg h1, if_pos h2]
        · rw [if_neg h2, if_neg h1, if_neg h1, if_neg h2]; exact ih ys
/-- Not greater than what is not greater is not greater. -/
theorem cmpB_le (a b c : List UInt8) : Lib.compareBytes a b ≤ 0 → Lib.compareBytes b c ≤ 0 → Lib.compareBytes a c ≤ 0 := by
  induction a generalizing b c with
  | nil => intro _ _; cases c <;> simp [Lib.compareBytes]
  | cons x xs ih =>
    cases b with
    | nil => intro h; simp [Lib.compareBytes] at h
    | cons y ys =>
      cases c with
      | nil => intro _ h; simp [Lib.compareBytes] at h
      | cons z zs =>
        have := ih ys zs
        simp only [Lib.compareBytes, UInt8.lt_iff_toNat_lt]
        intro h1 h2
        (repeat' split at h1) <;> (repeat' split at h2) <;> (repeat' split) <;> first | omega | exact this h1 h2
theorem cmpI_flip (a b : Int) : cmpI b a = -cmpI a b := by unfold cmpI; (repeat' split) <;> omega
theorem cmpI_bd (a b : Int) : cmpI a b = -1 ∨ cmpI a b = 0 ∨ cmpI a b = 1 := by unfold cmpI; (repeat' split) <;> omega
theorem cmpI_le (a b c : Int) : cmpI a b ≤ 0 → cmpI b c ≤ 0 → cmpI a c ≤ 0 := by unfold cmpI; (repeat' split) <;> omega

theorem cmpR_bd (k n : Int) (s : ByteArray) (k' n' : Int) (s' : ByteArray) : -1 ≤ cmpR k n s k' n' s' ∧ cmpR k n s k' n' s' ≤ 1 := by
  have h1 := cmpB_bd s.data.toList s'.data.toList
  have h2 := cmpI_bd n n'
  unfold cmpR; (repeat' split) <;> omega
theorem both_zero (k n : Int) (s : ByteArray) (k' n' : Int) (s' : ByteArray) : bothE k n s k' n' s' = 0 ↔ vE k n s = 0 ∧ vE k' n' s' = 0 := by
  unfold bothE; split <;> omega
theorem cmpE_zero (k n : Int) (s : ByteArray) (k' n' : Int) (s' : ByteArray) : cmpE k n s k' n' s' = 0 ↔ (vE k n s = 0 ∧ vE k' n' s' = 0) ∧ k = k' ∧ k ≠ 0 := by
  rw [← both_zero]
  unfold cmpE
  by_cases h : bothE k n s k' n' s' = 0
  · rw [if_pos h]
    by_cases h2 : k = k' ∧ k ≠ 0
    · rw [if_pos h2]; exact ⟨fun _ => ⟨h, h2⟩, fun _ => rfl⟩
    · rw [if_neg h2]; exact ⟨fun e => absurd e (by decide), fun e => absurd e.2 h2⟩
  · rw [if_neg h]; simp [h]
theorem cmpE_flip (k n : Int) (s : ByteArray) (k' n' : Int) (s' : ByteArray) : (cmpE k n s k' n' s' == 0) = (cmpE k' n' s' k n s == 0) := by
  have h1 := cmpE_zero k n s k' n' s'
  have h2 := cmpE_zero k' n' s' k n s
  have : cmpE k n s k' n' s' = 0 ↔ cmpE k' n' s' k n s = 0 := by
    rw [h1, h2]
    constructor
    · rintro ⟨⟨a, b⟩, rfl, c⟩; exact ⟨⟨b, a⟩, rfl, c⟩
    · rintro ⟨⟨a, b⟩, rfl, c⟩; exact ⟨⟨b, a⟩, rfl, c⟩
  rw [Bool.eq_iff_iff]; simpa using this
theorem cmpR_on (k n : Int) (s : ByteArray) (n' : Int) (s' : ByteArray) (a : vE k n s = 0) (b : vE k n' s' = 0) (c : k ≠ 0) :
    cmpR k n s k n' s' = if k = 4 then Lib.compareBytes s.data.toList s'.data.toList else cmpI n n' := by
  unfold cmpR; rw [if_pos ⟨(both_zero _ _ _ _ _ _).2 ⟨a, b⟩, rfl, c⟩]
theorem cmpR_flip (k n : Int) (s : ByteArray) (k' n' : Int) (s' : ByteArray) (h : cmpE k n s k' n' s' = 0) : cmpR k n s k' n' s' = -cmpR k' n' s' k n s := by
  obtain ⟨⟨a, b⟩, rfl, c⟩ := (cmpE_zero _ _ _ _ _ _).1 h
  rw [cmpR_on _ _ _ _ _ a b c, cmpR_on _ _ _ _ _ b a c]
  split
  · rw [cmpB_flip]
  · rw [cmpI_flip]
theorem cmp_trans (k n : Int) (s : ByteArray) (k' n' : Int) (s' : ByteArray) (k'' n'' : Int) (s'' : ByteArray) (h : cmpE k n s k' n' s' = 0) (h' : cmpE k' n' s' k'' n'' s'' = 0) :
    cmpE k n s k'' n'' s'' = 0 ∧ (cmpR k n s k' n' s' ≤ 0 → cmpR k' n' s' k'' n'' s'' ≤ 0 → cmpR k n s k'' n'' s'' ≤ 0) := by
  obtain ⟨⟨a, b⟩, rfl, c⟩ := (cmpE_zero _ _ _ _ _ _).1 h
  obtain ⟨⟨a', b'⟩, rfl, c'⟩ := (cmpE_zero _ _ _ _ _ _).1 h'
  refine ⟨(cmpE_zero _ _ _ _ _ _).2 ⟨⟨a, b'⟩, rfl, c⟩, ?_⟩
  rw [cmpR_on _ _ _ _ _ a b c, cmpR_on _ _ _ _ _ a' b' c, cmpR_on _ _ _ _ _ a b' c]
  split
  · exact cmpB_le _ _ _
  · exact cmpI_le _ _ _
end Go.Proofs.YtfgadkknfehkcaaDoor
