/- Sets as bytes of bits: plain mathematics. -/
import Derived.Test.YtoldjpnkgdhpkaaBitsN
namespace Go.Proofs.Ytoldjpnkgdhpkaa
set_option linter.unusedVariables false

/-- The byte j of the bits of a list: the sum of its numbers' bits. -/
def byteOf (l : List Int) (j : Nat) : Nat := ((l.filter fun x => decide ((x.toNat - 1) / 8 = j)).map fun x => 2 ^ ((x.toNat - 1) % 8)).sum
def mapL (l : List Int) (n : Nat) : List Nat := (List.range ((n + 7) / 8)).map (byteOf l)

theorem byteOf_snoc (l : List Int) (k : Int) (j : Nat) : byteOf (l ++ [k]) j = byteOf l j + if (k.toNat - 1) / 8 = j then 2 ^ ((k.toNat - 1) % 8) else 0 := by
  unfold byteOf
  by_cases h : (k.toNat - 1) / 8 = j <;> simp [List.filter_append, h]

/-- All numbers below a bound: the byte has no bit from the bound on. -/
theorem byteOf_lt (j : Nat) (B : Nat) : ∀ (l : List Int), Asc l → (∀ x ∈ l, 1 ≤ x) → (∀ x ∈ l, (x.toNat - 1) / 8 = j → (x.toNat - 1) % 8 < B) → byteOf l j < 2 ^ B := by
  intro l
  suffices h : ∀ (m : Nat) (l : List Int), l.length = m → Asc l → (∀ x ∈ l, 1 ≤ x) → ∀ B, (∀ x ∈ l, (x.toNat - 1) / 8 = j → (x.toNat - 1) % 8 < B) → byteOf l j < 2 ^ B by
    intro h1 h2 h3; exact h _ l rfl h1 h2 B h3
  intro m
  induction m with
  | zero => intro l hl _ _ B _; rw [List.length_eq_zero_iff] at hl; subst hl; simp [byteOf]; exact Nat.two_pow_pos B
  | succ m ih =>
    intro l hl ha h1 B hB
    have hne : l ≠ [] := by intro e; simp [e] at hl
    obtain ⟨l', k, rfl⟩ : ∃ l' k, l = l' ++ [k] := ⟨l.dropLast, l.getLast hne, (List.dropLast_concat_getLast hne).symm⟩
    rw [Asc, List.pairwise_append] at ha
    have hk1 := h1 k (by simp)
    have hlt : ∀ x ∈ l', 1 ≤ x ∧ x < k := fun x hx => ⟨h1 x (by simp [hx]), ha.2.2 x hx k (by simp)⟩
    rw [byteOf_snoc]
    by_cases hkj : (k.toNat - 1) / 8 = j
    · rw [if_pos hkj]
      have hb := hB k (by simp) hkj
      have := ih l' (by simpa using hl) ha.1 (fun x hx => (hlt x hx).1) ((k.toNat - 1) % 8) (fun x hx hxj => by have := hlt x hx; omega)
      have h2 : 2 ^ ((k.toNat - 1) % 8) + 2 ^ ((k.toNat - 1) % 8) ≤ 2 ^ B := by
        rw [← Nat.two_mul, ← Nat.pow_succ']; exact Nat.pow_le_pow_right (by omega) hb
      omega
    · rw [if_neg hkj]
      exact ih l' (by simpa using hl) ha.1 (fun x hx => (hlt x hx).1) B (fun x hx => hB x (by simp [hx]))

theorem byteOf_255 (l : List Int) (j : Nat) (h : Asc l) (h1 : ∀ x ∈ l, 1 ≤ x) : byteOf l j < 256 :=
  byteOf_lt j 8 l h h1 fun x _ _ => by omega

/-- The next number's bit is not there yet: or is plus. -/
theorem byteOf_or (l : List Int) (k : Int) (h : Asc (l ++ [k])) (h1 : ∀ x ∈ l ++ [k], 1 ≤ x) :
    byteOf l ((k.toNat - 1) / 8) ||| 2 ^ ((k.toNat - 1) % 8) = byteOf l ((k.toNat - 1) / 8) + 2 ^ ((k.toNat - 1) % 8) := by
  rw [Asc, List.pairwise_append] at h
  have hk := h1 k (by simp)
  have hlt : byteOf l ((k.toNat - 1) / 8) < 2 ^ ((k.toNat - 1) % 8) :=
    byteOf_lt _ _ l h.1 (fun x hx => h1 x (by simp [hx])) fun x hx hxj => by
      have := h.2.2 x hx k (by simp); have := h1 x (by simp [hx]); omega
  have := Nat.two_pow_add_eq_or_of_lt hlt 1
  rw [Nat.mul_one] at this
  rw [Nat.or_comm, ← this, Nat.add_comm]

theorem byteOf_bit (j b : Nat) (hb : b < 8) : ∀ (l : List Int), Asc l → (∀ x ∈ l, 1 ≤ x) → ((byteOf l j).testBit b = true ↔ ((8 * j + b + 1 : Nat) : Int) ∈ l) := by
  intro l
  suffices h : ∀ (m : Nat) (l : List Int), l.length = m → Asc l → (∀ x ∈ l, 1 ≤ x) → ((byteOf l j).testBit b = true ↔ ((8 * j + b + 1 : Nat) : Int) ∈ l) from h _ l rfl
  intro m
  induction m with
  | zero => intro l hl _ _; rw [List.length_eq_zero_iff] at hl; subst hl; simp [byteOf]
  | succ m ih =>
    intro l hl ha h1
    have hne : l ≠ [] := by intro e; simp [e] at hl
    obtain ⟨l', k, rfl⟩ : ∃ l' k, l = l' ++ [k] := ⟨l.dropLast, l.getLast hne, (List.dropLast_concat_getLast hne).symm⟩
    have ha' := ha
    rw [Asc, List.pairwise_append] at ha
    have hk1 := h1 k (by simp)
    have ih' := ih l' (by simpa using hl) ha.1 (fun x hx => h1 x (by simp [hx]))
    rw [byteOf_snoc, List.mem_append, List.mem_singleton]
    by_cases hkj : (k.toNat - 1) / 8 = j
    · rw [if_pos hkj]
      have hor := byteOf_or l' k ha' h1
      rw [hkj] at hor
      rw [← hor, Nat.testBit_or, Nat.testBit_two_pow, Bool.or_eq_true, ih', decide_eq_true_eq]
      constructor
      · rintro (h | h)
        · exact .inl h
        · exact .inr (by omega)
      · rintro (h | h)
        · exact .inl h
        · exact .inr (by omega)
    · rw [if_neg hkj, Nat.add_zero, ih']
      constructor
      · exact .inl
      · rintro (h | h)
        · exact h
        · omega

/-- The numbers whose bit is there. -/
def unmapL (bs : List Nat) : List Int := ((List.range (8 * bs.length)).filter fun i => (bs.getD (i / 8) 0).testBit (i % 8)).map fun (i : Nat) => (i : Int) + 1

theorem asc_unmapL (bs : List Nat) : Asc (unmapL bs) := by
  unfold unmapL Asc
  rw [List.pairwise_map]
  refine (List.Pairwise.filter _ List.pairwise_lt_range).imp ?_
  intro a b h; omega
theorem mem_unmapL (bs : List Nat) (z : Int) : z ∈ unmapL bs ↔ 1 ≤ z ∧ z ≤ 8 * bs.length ∧ (bs.getD ((z.toNat - 1) / 8) 0).testBit ((z.toNat - 1) % 8) = true := by
  simp only [unmapL, List.mem_map, List.mem_filter, List.mem_range]
  constructor
  · rintro ⟨i, ⟨h1, h2⟩, rfl⟩
    have e : ((i : Int) + 1).toNat - 1 = i := by omega
    rw [e]
    exact ⟨by omega, by omega, h2⟩
  · rintro ⟨h1, h2, h3⟩
    exact ⟨z.toNat - 1, ⟨by omega, h3⟩, by omega⟩

theorem unmapL_mapL (l : List Int) (n : Nat) (ha : Asc l) (h : ∀ x ∈ l, 1 ≤ x ∧ x ≤ n) : unmapL (mapL l n) = l := by
  refine asc_ext (asc_unmapL _) ha fun z => ?_
  have hlen : (mapL l n).length = (n + 7) / 8 := by simp [mapL]
  rw [mem_unmapL, hlen]
  have hget : ∀ j, j < (n + 7) / 8 → (mapL l n).getD j 0 = byteOf l j := fun j hj => by
    simp [mapL, List.getD, hj]
  constructor
  · rintro ⟨h1, h2, h3⟩
    rw [hget _ (by omega), byteOf_bit _ _ (by omega) l ha (fun x hx => (h x hx).1)] at h3
    rwa [show ((8 * ((z.toNat - 1) / 8) + (z.toNat - 1) % 8 + 1 : Nat) : Int) = z by omega] at h3
  · intro hz
    have := h z hz
    refine ⟨by omega, by omega, ?_⟩
    rw [hget _ (by omega), byteOf_bit _ _ (by omega) l ha (fun x hx => (h x hx).1)]
    rwa [show ((8 * ((z.toNat - 1) / 8) + (z.toNat - 1) % 8 + 1 : Nat) : Int) = z by omega]
end Go.Proofs.Ytoldjpnkgdhpkaa
