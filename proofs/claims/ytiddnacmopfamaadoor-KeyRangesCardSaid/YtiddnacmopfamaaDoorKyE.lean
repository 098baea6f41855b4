/- Replacing all instances, byte by byte. -/
import Derived.Lib.Replace
import Derived.Lib.IndexMore
namespace Go.Proofs.YtiddnacmopfamaaDoor
open Go.Lib
set_option linter.unusedSimpArgs false
set_option linter.unusedVariables false

/-- All instances of old replaced by new. -/
def rep (old new l : List UInt8) : List UInt8 := replaceK old new (count l old) l

theorem rep_nil (old new : List UInt8) (h : old ≠ []) : rep old new [] = [] := by
  unfold rep
  have hi : index [] old = -1 := by
    unfold index; rw [if_neg (by simpa using h)]
  rw [count_miss hi]; rfl
theorem rep_hit (old new l : List UInt8) (h : old ≠ []) (hp : old.isPrefixOf l = true) : rep old new l = new ++ rep old new (l.drop old.length) := by
  have hi : index l old = (0 : Nat) := by
    cases l with
    | nil => cases old with
      | nil => exact absurd rfl h
      | cons a r => simp [List.isPrefixOf] at hp
    | cons b l => unfold index; rw [if_pos hp]; rfl
  unfold rep
  rw [count_hit h hi, Nat.add_comm, replaceK_hit old new _ l 0 hi]
  simp
theorem rep_miss (old new : List UInt8) (b : UInt8) (l : List UInt8) (h : old ≠ []) (hp : old.isPrefixOf (b :: l) = false) : rep old new (b :: l) = b :: rep old new l := by
  have hi : index (b :: l) old = if index l old == -1 then -1 else index l old + 1 := by
    show (if old.isPrefixOf (b :: l) then 0 else if index l old == -1 then -1 else index l old + 1) = _
    rw [hp]; rfl
  unfold rep
  by_cases hm : index l old = -1
  · rw [hm] at hi
    have hi' : index (b :: l) old = -1 := hi
    rw [count_miss hi', count_miss hm]; rfl
  · have hge := index_ge l old
    obtain ⟨i, hk⟩ : ∃ i : Nat, index l old = i := ⟨(index l old).toNat, by omega⟩
    have hi' : index (b :: l) old = ((i + 1 : Nat) : Int) := by
      rw [hi, if_neg (by simpa using hm), hk]; rfl
    rw [count_hit h hi', count_hit h hk, Nat.add_comm, Nat.add_comm 1, replaceK_hit old new _ (b :: l) (i + 1) hi', replaceK_hit old new _ l i hk]
    have e : (b :: l).drop (i + 1 + old.length) = l.drop (i + old.length) := by
      rw [show i + 1 + old.length = (i + old.length) + 1 by omega, List.drop_succ_cons]
    rw [e]; simp
theorem rep_same (old : List UInt8) (h : old ≠ []) : ∀ (n : Nat) (l : List UInt8), l.length ≤ n → rep old old l = l := by
  intro n
  induction n with
  | zero => intro l hl; have : l = [] := List.eq_nil_of_length_eq_zero (by omega); rw [this]; exact rep_nil old old h
  | succ n ih =>
    intro l hl
    cases hp : old.isPrefixOf l
    · cases l with
      | nil => exact rep_nil old old h
      | cons b l => rw [rep_miss old old b l h hp, ih l (by simp at hl; omega)]
    · rw [rep_hit old old l h hp]
      have hpos : 0 < old.length := List.length_pos_iff.2 h
      have hle := (List.isPrefixOf_iff_prefix.1 hp).length_le
      rw [ih _ (by rw [List.length_drop]; omega)]
      obtain ⟨r, hr⟩ := List.isPrefixOf_iff_prefix.1 hp
      rw [← hr]; simp
theorem rep_len (old new : List UInt8) (h : old ≠ []) : ∀ (n : Nat) (l : List UInt8), l.length ≤ n → (rep old new l).length ≤ l.length * (1 + new.length) := by
  intro n
  induction n with
  | zero => intro l hl; have : l = [] := List.eq_nil_of_length_eq_zero (by omega); rw [this, rep_nil old new h]; simp
  | succ n ih =>
    intro l hl
    cases hp : old.isPrefixOf l
    · cases l with
      | nil => rw [rep_nil old new h]; simp
      | cons b l =>
        rw [rep_miss old new b l h hp]
        have := ih l (by simp at hl; omega)
        simp only [List.length_cons, Nat.add_mul, Nat.one_mul]
        omega
    · rw [rep_hit old new l h hp]
      have hpos : 0 < old.length := List.length_pos_iff.2 h
      have hle := (List.isPrefixOf_iff_prefix.1 hp).length_le
      have := ih (l.drop old.length) (by rw [List.length_drop]; omega)
      rw [List.length_drop] at this
      rw [List.length_append]
      have h2 : (l.length - old.length) * (1 + new.length) + (1 + new.length) ≤ l.length * (1 + new.length) := by
        rw [← Nat.succ_mul]
        exact Nat.mul_le_mul_right _ (by omega)
      omega
theorem replaceAll_rep (old new l : List UInt8) (h : old ≠ []) : replaceAll l old new = rep old new l := by
  unfold replaceAll replace
  split
  · rename_i he
    have : old = new := by simpa using he
    rw [← this, rep_same old h _ l (Nat.le_refl _)]
  · unfold rep replaceNum
    rw [if_pos (Or.inl (by decide))]

/-- A text in a key: 0 as 0, 1. -/
def esc (l : List UInt8) : List UInt8 := l.flatMap fun u => if u = 0 then [0, 1] else [u]
theorem esc_nil : esc [] = [] := rfl
theorem esc_cons (u : UInt8) (l : List UInt8) : esc (u :: l) = (if u = 0 then [0, 1] else [u]) ++ esc l := by simp [esc]
theorem esc_append (a b : List UInt8) : esc (a ++ b) = esc a ++ esc b := by simp [esc]
theorem esc_len (l : List UInt8) : l.length ≤ (esc l).length ∧ (esc l).length ≤ 2 * l.length := by
  induction l with
  | nil => simp [esc]
  | cons u l ih =>
    rw [esc_cons, List.length_append, List.length_cons]
    split <;> simp <;> omega
theorem rep_esc : ∀ l : List UInt8, rep [0] [0, 1] l = esc l
  | [] => rep_nil _ _ (by simp)
  | u :: l => by
    by_cases h : u = 0
    · subst h
      rw [rep_hit [0] [0, 1] (0 :: l) (by simp) (by simp [List.isPrefixOf]), esc_cons, if_pos rfl]
      simp [rep_esc l]
    · have hb : ((0 : UInt8) == u) = false := by
        simp only [beq_eq_false_iff_ne, ne_eq]
        exact fun e => h e.symm
      rw [rep_miss [0] [0, 1] u l (by simp) (by simp [List.isPrefixOf, hb]), esc_cons, if_neg h, rep_esc l]; rfl
theorem all_esc (l : List UInt8) : replaceAll l [0] [0, 1] = esc l := by rw [replaceAll_rep _ _ _ (by simp), rep_esc]
theorem count0 : ∀ (n : Nat) (l : List UInt8), countFrom [0] n l ≤ l.length
  | 0, l => by simp [countFrom]
  | n + 1, l => by
    have h := count0 n
    unfold countFrom
    split
    · simp
    · have h2 := h (l.drop ((index l [0]).toNat + [(0 : UInt8)].length))
      rw [List.length_drop] at h2
      have hne : index l [0] ≠ -1 := by simpa using ‹¬ (index l [0] == -1) = true›
      cases l with
      | nil => exact absurd (by unfold index; simp [List.isPrefixOf]) hne
      | cons u l => simp only [List.length_cons, List.length_nil] at h2 ⊢; omega
theorem count_le (l : List UInt8) : count l [0] ≤ l.length := count0 _ _
/-- The text begins with another one exactly if its key, behind the kind, begins with the other's. -/
theorem esc_begins : ∀ s t : List UInt8, (esc s).isPrefixOf (esc t ++ [0, 0]) = s.isPrefixOf t
  | [], t => by simp [esc, List.isPrefixOf]
  | u :: s, [] => by
    rw [esc_cons]
    by_cases h : u = 0
    · subst h
      simp [esc, List.isPrefixOf]
    · rw [if_neg h]
      have hb : (u == 0) = false := by simpa using h
      simp [esc, List.isPrefixOf, hb]
  | u :: s, v :: t => by
    have ih := esc_begins s t
    rw [esc_cons, esc_cons]
    by_cases h : u = 0
    · by_cases k : v = 0
      · subst h k
        simpa [List.isPrefixOf] using ih
      · subst h
        have hb : ((0 : UInt8) == v) = false := by
          simp only [beq_eq_false_iff_ne, ne_eq]; exact fun e => k e.symm
        simp [List.isPrefixOf, k, hb]
    · by_cases k : v = 0
      · subst k
        have hb : (u == 0) = false := by simpa using h
        simp [List.isPrefixOf, h, hb]
      · simp only [if_neg h, if_neg k, List.cons_append, List.nil_append, List.isPrefixOf]
        rw [ih]
/-- Digits to the base 256, the highest one first. -/
def digs : Nat → Nat → List Nat
  | 0, _ => []
  | k + 1, n => digs k (n / 256) ++ [n % 256]
theorem digs_len : ∀ k n, (digs k n).length = k
  | 0, _ => rfl
  | k + 1, n => by rw [digs, List.length_append, digs_len k]; rfl
theorem digs_lt : ∀ k n, ∀ x ∈ digs k n, x < 256
  | 0, _ => by simp [digs]
  | k + 1, n => by
    intro x hx
    rw [digs, List.mem_append] at hx
    rcases hx with hx | hx
    · exact digs_lt k _ x hx
    · have : x = n % 256 := by simpa using hx
      omega
theorem digs_step (k j n : Nat) : digs (k + 1) (n / 256 ^ j) = digs k (n / 256 ^ (j + 1)) ++ [n / 256 ^ j % 256] := by
  rw [digs, Nat.div_div_eq_div_mul, ← Nat.pow_succ]
end Go.Proofs.YtiddnacmopfamaaDoor
