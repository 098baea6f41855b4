/- Texts of bytes: what two have in common, and the shortest text between them: the mathematics. -/
import Derived.Lib.Bytealg
import GoSem.Op.String
namespace Go.Proofs.YtiddnacmopfamaaDoor
set_option linter.unusedVariables false
set_option linter.unusedSimpArgs false

/-- How many bytes two texts have in common at their begin. -/
def lcp : List UInt8 → List UInt8 → Nat
  | a :: x, b :: y => if a = b then lcp x y + 1 else 0
  | _, _ => 0
theorem lcp_le : ∀ a b, lcp a b ≤ a.length ∧ lcp a b ≤ b.length
  | [], b => by simp [lcp]
  | a :: x, [] => by simp [lcp]
  | a :: x, b :: y => by
    have h := lcp_le x y
    unfold lcp
    split
    · simp; omega
    · simp
theorem lcp_same : ∀ (a b : List UInt8) (j : Nat), j < lcp a b → a[j]? = b[j]?
  | [], b, j, h => by simp [lcp] at h
  | a :: x, [], j, h => by simp [lcp] at h
  | a :: x, b :: y, j, h => by
    unfold lcp at h
    by_cases e : a = b
    · rw [if_pos e] at h
      subst e
      cases j with
      | zero => rfl
      | succ j => simpa using lcp_same x y j (by omega)
    · rw [if_neg e] at h; omega
theorem lcp_is : ∀ (a b : List UInt8) (n : Nat), n ≤ a.length → n ≤ b.length → (∀ j, j < n → a[j]? = b[j]?) → (n = a.length ∨ n = b.length ∨ a[n]? ≠ b[n]?) → lcp a b = n
  | [], b, n, h1, _, _, _ => by have e : n = 0 := by simpa using h1
                                subst e; cases b <;> rfl
  | a :: x, [], n, _, h2, _, _ => by have e : n = 0 := by simpa using h2
                                     subst e; rfl
  | a :: x, b :: y, n, h1, h2, h3, h4 => by
    unfold lcp
    cases n with
    | zero =>
      rcases h4 with h | h | h
      · simp at h
      · simp at h
      · rw [if_neg (fun e => h (by simp [e]))]
    | succ n =>
      have e : a = b := by simpa using h3 0 (by omega)
      rw [if_pos e]
      have := lcp_is x y n (by simpa using h1) (by simpa using h2) (fun j hj => by simpa using h3 (j + 1) (by omega)) (by
        rcases h4 with h | h | h
        · left; simpa using h
        · right; left; simpa using h
        · right; right; simpa using h)
      rw [this]
theorem less_cmp : ∀ a b : List UInt8, Op.bytesLess a b = decide (Lib.compareBytes a b < 0)
  | [], [] => rfl
  | _ :: _, [] => by simp [Op.bytesLess, Lib.compareBytes]
  | [], _ :: _ => by simp [Op.bytesLess, Lib.compareBytes]
  | a :: x, b :: y => by
    unfold Op.bytesLess Lib.compareBytes
    by_cases h : a < b
    · simp [h]
    · by_cases h2 : b < a
      · have h3 : (a == b) = false := by
          simp only [beq_eq_false_iff_ne, ne_eq]
          rintro rfl
          exact absurd h2 h
        simp [h, h2, h3]
      · have e : a = b := by
          apply UInt8.toNat_inj.1
          have h1 := UInt8.lt_iff_toNat_lt (a := a) (b := b)
          have h3 := UInt8.lt_iff_toNat_lt (a := b) (b := a)
          simp only [h1] at h
          simp only [h3] at h2
          omega
        subst e
        simp [less_cmp x y]
/-- Two texts that are the same up to n compare as what is behind. -/
theorem cmp_from : ∀ (a b : List UInt8) (n : Nat), n ≤ a.length → n ≤ b.length → (∀ j, j < n → a[j]? = b[j]?) → Lib.compareBytes a b = Lib.compareBytes (a.drop n) (b.drop n)
  | a, b, 0, _, _, _ => by simp
  | [], _, n + 1, h, _, _ => by simp at h
  | _ :: _, [], n + 1, _, h, _ => by simp at h
  | a :: x, b :: y, n + 1, h1, h2, h3 => by
    have e : a = b := by simpa using h3 0 (by omega)
    subst e
    rw [Lib.compareBytes, if_neg (by simp [UInt8.lt_iff_toNat_lt]), if_neg (by simp [UInt8.lt_iff_toNat_lt])]
    simpa using cmp_from x y n (by simpa using h1) (by simpa using h2) (fun j hj => by simpa using h3 (j + 1) (by omega))
theorem cmp_head {a b : UInt8} {x y : List UInt8} (h : a.toNat < b.toNat) : Lib.compareBytes (a :: x) (b :: y) = -1 ∧ Lib.compareBytes (b :: y) (a :: x) = 1 := by
  constructor
  · rw [Lib.compareBytes, if_pos (UInt8.lt_iff_toNat_lt.2 h)]
  · rw [Lib.compareBytes, if_neg (fun k => by have := UInt8.lt_iff_toNat_lt.1 k; omega), if_pos (UInt8.lt_iff_toNat_lt.2 h)]
theorem drop_at {a : List UInt8} {n : Nat} (h : n < a.length) : a.drop n = a.getD n 0 :: a.drop (n + 1) := by
  rw [List.drop_eq_getElem_cons h]; simp [List.getD, h]
theorem getD_of {a b : List UInt8} {j : Nat} (h : a[j]? = b[j]?) : a.getD j 0 = b.getD j 0 := by simp [List.getD, h]
/-- The bytes at which a smaller text differs first. -/
theorem less_at {a b : List UInt8} (h : Lib.compareBytes a b < 0) (hn : lcp a b < a.length) : lcp a b < b.length ∧ (a.getD (lcp a b) 0).toNat < (b.getD (lcp a b) 0).toNat := by
  obtain ⟨h1, h2⟩ := lcp_le a b
  have hc := cmp_from a b (lcp a b) h1 h2 (fun j hj => lcp_same a b j hj)
  rw [hc] at h
  have hb : lcp a b < b.length := by
    rcases Nat.lt_or_ge (lcp a b) b.length with h3 | h3
    · exact h3
    · rw [drop_at hn, List.drop_of_length_le h3] at h
      simp [Lib.compareBytes] at h
  refine ⟨hb, ?_⟩
  have hne : a[lcp a b]? ≠ b[lcp a b]? := by
    intro e
    have key : ∀ (a b : List UInt8), lcp a b < a.length → lcp a b < b.length → a[lcp a b]? ≠ b[lcp a b]? := by
      intro a
      induction a with
      | nil => intro b h; simp at h
      | cons u x ih =>
        intro b h1 h2
        cases b with
        | nil => simp at h2
        | cons v y =>
          unfold lcp at h1 h2 ⊢
          by_cases e : u = v
          · rw [if_pos e] at h1 h2 ⊢
            simpa using ih y (by simpa using h1) (by simpa using h2)
          · rw [if_neg e]; simpa using e
    exact key a b hn hb e
  rw [drop_at hn, drop_at hb] at h
  rcases Nat.lt_trichotomy (a.getD (lcp a b) 0).toNat (b.getD (lcp a b) 0).toNat with h4 | h4 | h4
  · exact h4
  · exfalso
    apply hne
    have e := UInt8.toNat_inj.1 h4
    rw [List.getElem?_eq_getElem hn, List.getElem?_eq_getElem hb]
    simpa [List.getD, hn, hb] using e
  · have := (cmp_head (x := b.drop (lcp a b + 1)) (y := a.drop (lcp a b + 1)) h4).2
    rw [this] at h
    omega
/-- The least text of the length of l that is greater, if the last byte that is not 255 is at i. -/
def furAt (l : List UInt8) (i : Nat) : List UInt8 := l.take i ++ (l.getD i 0 + 1) :: List.replicate (l.length - 1 - i) 0
theorem inc_byte {u : UInt8} (h : u.toNat < 255) : (u + 1).toNat = u.toNat + 1 := by
  rw [UInt8.toNat_add]
  have : (1 : UInt8).toNat = 1 := rfl
  omega
/-- What is greater within what is common is greater. -/
theorem fur_no {a b : List UInt8} {k i : Nat} (hk : k ≤ lcp a b) (hi : i < k) (h : ((a.take k).getD i 0).toNat < 255) : Lib.compareBytes (furAt (a.take k) i) b = 1 := by
  obtain ⟨h1, h2⟩ := lcp_le a b
  have hl : (a.take k).length = k := by rw [List.length_take]; omega
  have e : (a.take k).getD i 0 = a.getD i 0 := by simp [List.getD, List.getElem?_take, hi]
  rw [cmp_from _ b i (by simp [furAt]; omega) (by omega) (fun j hj => by
    unfold furAt
    rw [List.getElem?_append_left (by simp; omega), List.getElem?_take, if_pos hj, List.getElem?_take, if_pos (by omega)]
    exact lcp_same a b j (by omega))]
  have ed : (furAt (a.take k) i).drop i = ((a.take k).getD i 0 + 1) :: List.replicate ((a.take k).length - 1 - i) 0 := by
    unfold furAt
    rw [List.drop_append_of_le_length (by simp; omega)]
    rw [List.drop_of_length_le (by simp; omega), List.nil_append]
  rw [ed, drop_at (a := b) (by omega)]
  refine (cmp_head ?_).2
  rw [inc_byte h, e, ← getD_of (lcp_same a b i (by omega))]
  omega
/-- Behind what is common the least greater text is not above b. -/
theorem fur_yes {a b : List UInt8} (h : Lib.compareBytes a b < 0) (hn : lcp a b < a.length) :
    ((a.take (lcp a b + 1)).getD (lcp a b) 0).toNat < 255 ∧ Lib.compareBytes (furAt (a.take (lcp a b + 1)) (lcp a b)) b ≤ 0 ∧ furAt (a.take (lcp a b + 1)) (lcp a b) = a.take (lcp a b) ++ [a.getD (lcp a b) 0 + 1] := by
  obtain ⟨hb, hlt⟩ := less_at h hn
  have e : (a.take (lcp a b + 1)).getD (lcp a b) 0 = a.getD (lcp a b) 0 := by simp [List.getD, List.getElem?_take]
  have hl : (a.take (lcp a b + 1)).length = lcp a b + 1 := by rw [List.length_take]; omega
  have hf : furAt (a.take (lcp a b + 1)) (lcp a b) = a.take (lcp a b) ++ [a.getD (lcp a b) 0 + 1] := by
    unfold furAt
    rw [e, hl, List.take_take, Nat.min_eq_left (by omega), show lcp a b + 1 - 1 - lcp a b = 0 by omega]
    rfl
  have hb255 := (b.getD (lcp a b) 0).toNat_lt
  refine ⟨by rw [e]; omega, ?_, hf⟩
  rw [hf, cmp_from _ b (lcp a b) (by simp; omega) (by omega) (fun j hj => by
    rw [List.getElem?_append_left (by simp; omega), List.getElem?_take, if_pos hj]
    exact lcp_same a b j hj)]
  have ed : (a.take (lcp a b) ++ [a.getD (lcp a b) 0 + 1]).drop (lcp a b) = [a.getD (lcp a b) 0 + 1] := by
    rw [List.drop_append_of_le_length (by simp; omega), List.drop_of_length_le (by simp; omega), List.nil_append]
  rw [ed, drop_at hb]
  have hi := inc_byte (u := a.getD (lcp a b) 0) (by omega)
  by_cases hq : (a.getD (lcp a b) 0).toNat + 1 < (b.getD (lcp a b) 0).toNat
  · rw [(cmp_head (by rw [hi]; exact hq)).1]; omega
  · have hu : a.getD (lcp a b) 0 + 1 = b.getD (lcp a b) 0 := UInt8.toNat_inj.1 (by omega)
    rw [hu, Lib.compareBytes, if_neg (by simp [UInt8.lt_iff_toNat_lt]), if_neg (by simp [UInt8.lt_iff_toNat_lt])]
    cases b.drop (lcp a b + 1) <;> simp [Lib.compareBytes]
/-- The shortest text above a that is not above b. -/
def shortL (a b : List UInt8) : List UInt8 := if lcp a b = a.length then a ++ [0] else a.take (lcp a b) ++ [a.getD (lcp a b) 0 + 1]
end Go.Proofs.YtiddnacmopfamaaDoor
