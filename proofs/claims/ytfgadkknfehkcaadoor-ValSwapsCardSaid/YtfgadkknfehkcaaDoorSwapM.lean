/- Replacing all instances, byte by byte. -/
import Derived.Test.YtfgadkknfehkcaaDoorShelf
namespace Go.Proofs.YtfgadkknfehkcaaDoor
open Go.Lib

/-- All instances of old replaced by new. -/
def rep (old new l : List UInt8) : List UInt8 := replaceK old new (count l old) l

theorem rep_nil (old new : List UInt8) (h : old ≠ []) : rep old new [] = [] := by
  unfold rep
  have hi : index [] old = -1 := by
    unfold index; rw [if_neg (by simpa using h)]
  rw [count_miss hi]; rfl
theorem rep_hit (old new l : List UInt8) (h : old ≠ []) (hp : old.isPrefixOf l = true) : rep old new l = new ++ rep old new (l.drop old.length) := by
  have hi : index l old = (0 : Nat) := by
    cases l with
    | nil => cases old with
      | nil => exact absurd rfl h
      | cons a r => simp [List.isPrefixOf] at hp
    | cons b l => unfold index; rw [if_pos hp]; rfl
  unfold rep
  rw [count_hit h hi, Nat.add_comm, replaceK_hit old new _ l 0 hi]
  simp
theorem rep_miss (old new : List UInt8) (b : UInt8) (l : List UInt8) (h : old ≠ []) (hp : old.isPrefixOf (b :: l) = false) : rep old new (b :: l) = b :: rep old new l := by
  have hi : index (b :: l) old = if index l old == -1 then -1 else index l old + 1 := by
    show (if old.isPrefixOf (b :: l) then 0 else if index l old == -1 then -1 else index l old + 1) = _
    rw [hp]; rfl
  unfold rep
  by_cases hm : index l old = -1
  · rw [hm] at hi
    have hi' : index (b :: l) old = -1 := hi
    rw [count_miss hi', count_miss hm]; rfl
  · have hge := index_ge l old
    obtain ⟨i, hk⟩ : ∃ i : Nat, index l old = i := ⟨(index l old).toNat, by omega⟩
    have hi' : index (b :: l) old = ((i + 1 : Nat) : Int) := by
      rw [hi, if_neg (by simpa using hm), hk]; rfl
    rw [count_hit h hi', count_hit h hk, Nat.add_comm, Nat.add_comm 1, replaceK_hit old new _ (b :: l) (i + 1) hi', replaceK_hit old new _ l i hk]
    have e : (b :: l).drop (i + 1 + old.length) = l.drop (i + old.length) := by
      rw [show i + 1 + old.length = (i + old.length) + 1 by omega, List.drop_succ_cons]
    rw [e]; simp
theorem rep_same (old : List UInt8) (h : old ≠ []) : ∀ (n : Nat) (l : List UInt8), l.length ≤ n → rep old old l = l := by
  intro n
  induction n with
  | zero => intro l hl; have : l = [] := List.eq_nil_of_length_eq_zero (by omega); rw [this]; exact rep_nil old old h
  | succ n ih =>
    intro l hl
    cases hp : old.isPrefixOf l
    · cases l with
      | nil => exact rep_nil old old h
      | cons b l => rw [rep_miss old old b l h hp, ih l (by simp at hl; omega)]
    · rw [rep_hit old old l h hp]
      have hpos : 0 < old.length := List.length_pos_iff.2 h
      have hle := (List.isPrefixOf_iff_prefix.1 hp).length_le
      rw [ih _ (by rw [List.length_drop]; omega)]
      obtain ⟨r, hr⟩ := List.isPrefixOf_iff_prefix.1 hp
      rw [← hr]; simp
theorem rep_len (old new : List UInt8) (h : old ≠ []) : ∀ (n : Nat) (l : List UInt8), l.length ≤ n → (rep old new l).length ≤ l.length * (1 + new.length) := by
  intro n
  induction n with
  | zero => intro l hl; have : l = [] := List.eq_nil_of_length_eq_zero (by omega); rw [this, rep_nil old new h]; simp
  | succ n ih =>
    intro l hl
    cases hp : old.isPrefixOf l
    · cases l with
      | nil => rw [rep_nil old new h]; simp
      | cons b l =>
        rw [rep_miss old new b l h hp]
        have := ih l (by simp at hl; omega)
        simp only [List.length_cons, Nat.add_mul, Nat.one_mul]
        omega
    · rw [rep_hit old new l h hp]
      have hpos : 0 < old.length := List.length_pos_iff.2 h
      have hle := (List.isPrefixOf_iff_prefix.1 hp).length_le
      have := ih (l.drop old.length) (by rw [List.length_drop]; omega)
      rw [List.length_drop] at this
      rw [List.length_append]
      have h2 : (l.length - old.length) * (1 + new.length) + (1 + new.length) ≤ l.length * (1 + new.length) := by
        rw [← Nat.succ_mul]
        exact Nat.mul_le_mul_right _ (by omega)
      omega
theorem replaceAll_rep (old new l : List UInt8) (h : old ≠ []) : replaceAll l old new = rep old new l := by
  unfold replaceAll replace
  split
  · rename_i he
    have : old = new := by simpa using he
    rw [← this, rep_same old h _ l (Nat.le_refl _)]
  · unfold rep replaceNum
    rw [if_pos (Or.inl (by decide))]
end Go.Proofs.YtfgadkknfehkcaaDoor
