/- The text of a key of a text, read: the mathematics. -/
import Derived.Test.YtiddnacmopfamaaDoorKyE
namespace Go.Proofs.YtiddnacmopfamaaDoor
set_option linter.unusedVariables false
set_option linter.unusedSimpArgs false

/-- A text behind its kind up to its end, and how many bytes it has there. -/
def decT : List UInt8 → Option (List UInt8 × Nat)
  | [] => none
  | [_] => none
  | u :: v :: r => if u = 0 then (if v = 0 then some ([], 2) else if v = 1 then (decT r).map fun x => (0 :: x.1, x.2 + 2) else none) else (decT (v :: r)).map fun x => (u :: x.1, x.2 + 1)
termination_by l => l.length
def compT (acc : List UInt8) (i : Nat) (o : Option (List UInt8 × Nat)) : Option (List UInt8 × Nat) := o.map fun x => (acc ++ x.1, i + x.2)
theorem compT_map (acc : List UInt8) (i : Nat) (u : UInt8) (n : Nat) (o : Option (List UInt8 × Nat)) : compT acc i (o.map fun x => (u :: x.1, x.2 + n)) = compT (acc ++ [u]) (i + n) o := by
  cases o with
  | none => rfl
  | some x => simp [compT]; omega
theorem dropU {l : List UInt8} {i : Nat} (h : i < l.length) : l.drop i = l.getD i 0 :: l.drop (i + 1) := by
  rw [List.drop_eq_getElem_cons h]; simp [List.getD, h]
theorem decT_A {acc l : List UInt8} {i : Nat} (h : i < l.length) (hu : l.getD i 0 ≠ 0) : compT acc i (decT (l.drop i)) = compT (acc ++ [l.getD i 0]) (i + 1) (decT (l.drop (i + 1))) := by
  rw [dropU h]
  by_cases h2 : i + 1 < l.length
  · rw [dropU h2, decT, if_neg hu, compT_map]
  · rw [List.drop_of_length_le (by omega : l.length ≤ i + 1), decT, decT]; rfl
theorem decT_B {acc l : List UInt8} {i : Nat} (h : i + 1 = l.length) : compT acc i (decT (l.drop i)) = none := by
  rw [dropU (by omega), List.drop_of_length_le (by omega : l.length ≤ i + 1), decT]; rfl
theorem decT_C {acc l : List UInt8} {i : Nat} (h : i + 1 < l.length) (hu : l.getD i 0 = 0) (hv : l.getD (i + 1) 0 = 0) : compT acc i (decT (l.drop i)) = some (acc, i + 2) := by
  rw [dropU (by omega), dropU h, decT, if_pos hu, if_pos hv]; simp [compT]
theorem decT_D {acc l : List UInt8} {i : Nat} (h : i + 1 < l.length) (hu : l.getD i 0 = 0) (hv : l.getD (i + 1) 0 = 1) : compT acc i (decT (l.drop i)) = compT (acc ++ [0]) (i + 2) (decT (l.drop (i + 2))) := by
  rw [dropU (by omega), dropU h, decT, if_pos hu, if_neg (by rw [hv]; decide), if_pos hv, compT_map]
theorem decT_E {acc l : List UInt8} {i : Nat} (h : i + 1 < l.length) (hu : l.getD i 0 = 0) (hv : 1 < (l.getD (i + 1) 0).toNat) : compT acc i (decT (l.drop i)) = none := by
  rw [dropU (by omega), dropU h, decT, if_pos hu, if_neg (by intro e; rw [e] at hv; exact absurd hv (by decide)), if_neg (by intro e; rw [e] at hv; exact absurd hv (by decide))]; rfl
theorem decT_F {acc l : List UInt8} {i : Nat} (h : l.length ≤ i) : compT acc i (decT (l.drop i)) = none := by
  rw [List.drop_of_length_le h, decT]; rfl
theorem compT_nil (i : Nat) (o : Option (List UInt8 × Nat)) : compT [] i o = o.map fun x => (x.1, i + x.2) := by simp [compT]
theorem decT_len : ∀ (n : Nat) (l : List UInt8), l.length ≤ n → ∀ x, decT l = some x → x.1.length ≤ l.length ∧ x.2 ≤ l.length
  | 0, l, h, x, hx => by
    have : l = [] := List.eq_nil_of_length_eq_zero (by omega)
    subst this
    rw [decT] at hx; cases hx
  | n + 1, [], h, x, hx => by rw [decT] at hx; cases hx
  | n + 1, [u], h, x, hx => by rw [decT] at hx; cases hx
  | n + 1, u :: v :: r, h, x, hx => by
    rw [decT] at hx
    split at hx
    · split at hx
      · cases hx; simp
      · split at hx
        · cases hd : decT r with
          | none => rw [hd] at hx; cases hx
          | some y =>
            rw [hd] at hx
            cases hx
            have := decT_len n r (by simp at h; omega) y hd
            simp; omega
        · cases hx
    · cases hd : decT (v :: r) with
      | none => rw [hd] at hx; cases hx
      | some y =>
        rw [hd] at hx
        cases hx
        have := decT_len n (v :: r) (by simp at h ⊢; omega) y hd
        simp at this ⊢; omega
/-- What is written is read. -/
theorem decT_esc : ∀ (l r : List UInt8), decT (esc l ++ 0 :: 0 :: r) = some (l, (esc l).length + 2)
  | [], r => by rw [esc_nil, List.nil_append, decT]; rfl
  | u :: l, r => by
    have ih := decT_esc l r
    rw [esc_cons]
    by_cases h : u = 0
    · subst h
      rw [if_pos rfl]
      show decT (0 :: 1 :: (esc l ++ 0 :: 0 :: r)) = _
      rw [decT, if_pos rfl, if_neg (by decide), if_pos rfl, ih]
      simp
    · rw [if_neg h]
      have hc : ∃ v q, esc l ++ 0 :: 0 :: r = v :: q := by
        cases hq : esc l ++ 0 :: 0 :: r with
        | nil => simp at hq
        | cons v q => exact ⟨v, q, rfl⟩
      obtain ⟨v, q, hq⟩ := hc
      show decT (u :: (esc l ++ 0 :: 0 :: r)) = _
      rw [hq, decT, if_neg h, ← hq, ih]
      simp
/-- The number of bytes, the highest one first. -/
def numV (l : List UInt8) : Nat := l.foldl (fun n u => 256 * n + u.toNat) 0
theorem numV_snoc (l : List UInt8) (u : UInt8) : numV (l ++ [u]) = 256 * numV l + u.toNat := by simp [numV]
theorem numV_lt : ∀ (n : Nat) (l : List UInt8), l.length = n → numV l < 256 ^ n
  | 0, l, h => by
    have : l = [] := List.eq_nil_of_length_eq_zero h
    subst this; simp [numV]
  | n + 1, l, h => by
    have hne : l ≠ [] := by intro e; subst e; simp at h
    have e := List.dropLast_concat_getLast hne
    rw [← e, numV_snoc]
    have ih := numV_lt n l.dropLast (by rw [List.length_dropLast]; omega)
    have hu := (l.getLast hne).toNat_lt
    have h256 : 256 ^ (n + 1) = 256 * 256 ^ n := by rw [Nat.pow_succ, Nat.mul_comm]
    omega
theorem numV_dg : ∀ (k x : Nat), x < 256 ^ k → numV ((digs k x).map UInt8.ofNat) = x
  | 0, x, h => by
    have : x = 0 := by simpa using h
    subst this; rfl
  | k + 1, x, h => by
    rw [digs, List.map_append, List.map_cons, List.map_nil, numV_snoc, numV_dg k (x / 256) (by rw [Nat.pow_succ] at h; exact Nat.div_lt_of_lt_mul (by rw [Nat.mul_comm]; exact h))]
    have : (UInt8.ofNat (x % 256)).toNat = x % 256 := by simp
    omega
end Go.Proofs.YtiddnacmopfamaaDoor
