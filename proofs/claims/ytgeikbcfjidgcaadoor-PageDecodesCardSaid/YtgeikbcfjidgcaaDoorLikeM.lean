/- Patterns: plain mathematics: what matches, and the two ways of finding it. -/
import Derived.Test.YtgeikbcfjidgcaaDoorPgM
namespace Go.Proofs.YtgeikbcfjidgcaaDoor
set_option linter.unusedVariables false

/-- A text is as a pattern says: 42 takes any text, 63 any one byte. -/
def Mt : List Nat → List Nat → Prop
  | [], s => s = []
  | c :: p, s => if c = 42 then ∃ j, j ≤ s.length ∧ Mt p (s.drop j) else ∃ x t, s = x :: t ∧ (c = 63 ∨ c = x) ∧ Mt p t
theorem Mt.nil (s : List Nat) : Mt [] s ↔ s = [] := Iff.rfl
theorem Mt.star (p s : List Nat) : Mt (42 :: p) s ↔ ∃ j, j ≤ s.length ∧ Mt p (s.drop j) := by
  show (if 42 = 42 then _ else _) ↔ _
  rw [if_pos rfl]
theorem Mt.one {c : Nat} (hc : c ≠ 42) (p s : List Nat) : Mt (c :: p) s ↔ ∃ x t, s = x :: t ∧ (c = 63 ∨ c = x) ∧ Mt p t := by
  show (if c = 42 then _ else _) ↔ _
  rw [if_neg hc]

theorem Mt.append : ∀ (p q s : List Nat), Mt (p ++ q) s ↔ ∃ j, j ≤ s.length ∧ Mt p (s.take j) ∧ Mt q (s.drop j)
  | [], q, s => by
    constructor
    · intro h
      exact ⟨0, by omega, by simp [Mt], by simpa using h⟩
    · rintro ⟨j, hj, h1, h2⟩
      rw [Mt.nil] at h1
      rcases List.take_eq_nil_iff.1 h1 with h0 | h0
      · subst h0; simpa using h2
      · subst h0; simpa using h2
  | c :: p, q, s => by
    by_cases hc : c = 42
    · subst hc
      rw [List.cons_append, Mt.star]
      constructor
      · rintro ⟨i, hi, h⟩
        obtain ⟨j, hj, h1, h2⟩ := (Mt.append p q (s.drop i)).1 h
        rw [List.length_drop] at hj
        refine ⟨i + j, by omega, (Mt.star p _).2 ⟨i, by rw [List.length_take]; omega, ?_⟩, ?_⟩
        · rw [List.drop_take, Nat.add_sub_cancel_left]; exact h1
        · rw [← List.drop_drop]; exact h2
      · rintro ⟨m, hm, h1, h2⟩
        obtain ⟨i, hi, h3⟩ := (Mt.star p _).1 h1
        rw [List.length_take] at hi
        refine ⟨i, by omega, (Mt.append p q _).2 ⟨m - i, by rw [List.length_drop]; omega, ?_, ?_⟩⟩
        · rw [List.drop_take] at h3; exact h3
        · rw [List.drop_drop, show i + (m - i) = m by omega]; exact h2
    · rw [List.cons_append, Mt.one hc]
      constructor
      · rintro ⟨x, t, rfl, ho, h⟩
        obtain ⟨j, hj, h1, h2⟩ := (Mt.append p q t).1 h
        exact ⟨j + 1, by simp; omega, (Mt.one hc _ _).2 ⟨x, t.take j, rfl, ho, h1⟩, h2⟩
      · rintro ⟨m, hm, h1, h2⟩
        obtain ⟨x, t, he, ho, h3⟩ := (Mt.one hc _ _).1 h1
        rcases s with _ | ⟨y, s⟩
        · simp at he
        · rcases m with _ | m
          · simp at he
          · simp only [List.take_succ_cons, List.cons.injEq] at he
            obtain ⟨rfl, rfl⟩ := he
            exact ⟨y, s, rfl, ho, (Mt.append p q s).2 ⟨m, by simp at hm; omega, h3, by simpa using h2⟩⟩

theorem Mt.seg_len : ∀ (p s : List Nat), 42 ∉ p → Mt p s → s.length = p.length
  | [], s, _, h => by rw [Mt.nil] at h; rw [h]
  | c :: p, s, hp, h => by
    have hc : c ≠ 42 := fun e => hp (by simp [e])
    obtain ⟨x, t, rfl, _, h⟩ := (Mt.one hc _ _).1 h
    have := Mt.seg_len p t (fun q => hp (by simp [q])) h
    simp [this]
/-- Nothing is left: the pattern has stars alone. -/
theorem Mt.empty : ∀ (p : List Nat), Mt p [] ↔ ∀ x ∈ p, x = 42
  | [] => by simp [Mt]
  | c :: p => by
    by_cases hc : c = 42
    · subst hc
      rw [Mt.star]
      constructor
      · rintro ⟨j, _, h⟩ x hx
        rw [List.drop_nil] at h
        rcases List.mem_cons.1 hx with h1 | h1
        · exact h1
        · exact (Mt.empty p).1 h x h1
      · intro h
        exact ⟨0, by simp, by rw [List.drop_nil]; exact (Mt.empty p).2 fun x hx => h x (by simp [hx])⟩
    · rw [Mt.one hc]
      constructor
      · rintro ⟨x, t, he, _⟩; simp at he
      · intro h; exact absurd (h c (by simp)) hc

/-! ### The table: one more sign of the pattern -/
theorem Mt.snoc_star (p s : List Nat) : Mt (p ++ [42]) s ↔ ∃ j, j ≤ s.length ∧ Mt p (s.take j) := by
  rw [Mt.append]
  constructor
  · rintro ⟨j, hj, h, _⟩; exact ⟨j, hj, h⟩
  · rintro ⟨j, hj, h⟩
    exact ⟨j, hj, h, (Mt.star _ _).2 ⟨(s.drop j).length, Nat.le_refl _, by rw [Mt.nil, List.drop_length]⟩⟩
theorem Mt.snoc_one {c : Nat} (hc : c ≠ 42) (p s : List Nat) : Mt (p ++ [c]) s ↔ ∃ t x, s = t ++ [x] ∧ (c = 63 ∨ c = x) ∧ Mt p t := by
  rw [Mt.append]
  constructor
  · rintro ⟨j, hj, h, h2⟩
    obtain ⟨x, t, he, ho, h3⟩ := (Mt.one hc _ _).1 h2
    rw [Mt.nil] at h3
    subst h3
    exact ⟨s.take j, x, by rw [← he, List.take_append_drop], ho, h⟩
  · rintro ⟨t, x, rfl, ho, h⟩
    refine ⟨t.length, by simp, by rw [List.take_left]; exact h, ?_⟩
    rw [List.drop_left]
    exact (Mt.one hc _ _).2 ⟨x, [], rfl, ho, rfl⟩

/-! ### One way forward, one way back -/
/-- What is known behind a star at g: the piece of the pattern behind it fits the text from f to i, and what is wanted. -/
structure Back (P T : List Nat) (p i g f : Nat) : Prop where
  gp : g < p
  pP : p ≤ P.length
  fi : f ≤ i
  iT : i ≤ T.length
  seg : 42 ∉ (P.drop (g + 1)).take (p - (g + 1))
  fits : Mt ((P.drop (g + 1)).take (p - (g + 1))) ((T.drop f).take (i - f))
  want : Mt P T ↔ ∃ j, f ≤ j ∧ j ≤ T.length ∧ Mt (P.drop (g + 1)) (T.drop j)
theorem Back.split {P : List Nat} {p g : Nat} (h : g < p) : P.drop (g + 1) = (P.drop (g + 1)).take (p - (g + 1)) ++ P.drop p := by
  have e : P.drop p = (P.drop (g + 1)).drop (p - (g + 1)) := by rw [List.drop_drop, show g + 1 + (p - (g + 1)) = p by omega]
  rw [e, List.take_append_drop]
theorem Back.len {P T : List Nat} {p i g f : Nat} (h : Back P T p i g f) : ((P.drop (g + 1)).take (p - (g + 1))).length = i - f := by
  have := Mt.seg_len _ _ h.seg h.fits
  rw [← this, List.length_take, List.length_drop]
  have := h.fi; have := h.iT; omega
/-- Any way that the pattern behind the star fits from j on goes on where the piece ends. -/
theorem Back.goes {P T : List Nat} {p i g f j : Nat} (h : Back P T p i g f) (hj : f ≤ j) (hjT : j ≤ T.length) (hm : Mt (P.drop (g + 1)) (T.drop j)) : j + (i - f) ≤ T.length ∧ Mt (P.drop p) (T.drop (j + (i - f))) := by
  rw [Back.split h.gp] at hm
  obtain ⟨m, hm1, hm2, hm3⟩ := (Mt.append _ _ _).1 hm
  have hl := Mt.seg_len _ _ h.seg hm2
  rw [h.len, List.length_take] at hl
  rw [List.length_drop] at hm1 hl
  have hme : m = i - f := by omega
  subst hme
  rw [List.drop_drop] at hm3
  exact ⟨by omega, hm3⟩
theorem Back.at_f {P T : List Nat} {p i g f : Nat} (h : Back P T p i g f) : Mt (P.drop (g + 1)) (T.drop f) ↔ Mt (P.drop p) (T.drop i) := by
  have hfi := h.fi
  have hiT := h.iT
  constructor
  · intro hm
    have := (h.goes (Nat.le_refl _) (by omega) hm).2
    rwa [show f + (i - f) = i by omega] at this
  · intro hm
    rw [Back.split h.gp]
    refine (Mt.append _ _ _).2 ⟨i - f, by rw [List.length_drop]; omega, h.fits, ?_⟩
    rw [List.drop_drop, show f + (i - f) = i by omega]
    exact hm
/-- A state of the search: no star yet, or one at g - 1. -/
def St (P T : List Nat) (p i : Nat) (g : Option Nat) (f : Nat) : Prop :=
  match g with
  | none => p ≤ P.length ∧ i ≤ T.length ∧ f = 0 ∧ (Mt P T ↔ Mt (P.drop p) (T.drop i))
  | some g => Back P T p i g f
theorem St.le {P T : List Nat} {p i f : Nat} {g : Option Nat} (h : St P T p i g f) : p ≤ P.length ∧ i ≤ T.length ∧ f ≤ T.length := by
  cases g with
  | none => exact ⟨h.1, h.2.1, by have := h.2.2.1; omega⟩
  | some g => exact ⟨h.pP, h.iT, Nat.le_trans h.fi h.iT⟩
theorem drop_at8 {l : List Nat} {k : Nat} (h : k < l.length) : l.drop k = l.getD k 0 :: l.drop (k + 1) := by
  rw [List.drop_eq_getElem_cons h]
  simp [List.getD, h]
/-- A star. -/
theorem St.star {P T : List Nat} {p i f : Nat} {g : Option Nat} (h : St P T p i g f) (hp : p < P.length) (hc : P.getD p 0 = 42) : St P T (p + 1) i (some p) i := by
  have hd := drop_at8 hp
  rw [hc] at hd
  have hiT := h.le.2.1
  refine ⟨by omega, by omega, Nat.le_refl _, hiT, by simp, by simp [Mt], ?_⟩
  cases g with
  | none =>
    rw [h.2.2.2, hd, Mt.star, List.length_drop]
    constructor
    · rintro ⟨j, hj, hm⟩
      rw [List.drop_drop] at hm
      exact ⟨i + j, by omega, by omega, hm⟩
    · rintro ⟨j, h1, h2, hm⟩
      exact ⟨j - i, by omega, by rw [List.drop_drop, show i + (j - i) = j by omega]; exact hm⟩
  | some g =>
    have h : Back P T p i g f := h
    rw [h.want]
    constructor
    · rintro ⟨j, h1, h2, hm⟩
      obtain ⟨h3, h4⟩ := h.goes h1 h2 hm
      rw [hd, Mt.star, List.length_drop] at h4
      obtain ⟨e, he, hm2⟩ := h4
      rw [List.drop_drop] at hm2
      have := h.fi
      exact ⟨j + (i - f) + e, by omega, by omega, hm2⟩
    · rintro ⟨j, h1, h2, hm⟩
      refine ⟨f, Nat.le_refl _, by have := h.fi; omega, h.at_f.2 ?_⟩
      rw [hd, Mt.star, List.length_drop]
      exact ⟨j - i, by omega, by rw [List.drop_drop, show i + (j - i) = j by omega]; exact hm⟩
/-- A sign that fits. -/
theorem St.next {P T : List Nat} {p i f : Nat} {g : Option Nat} (h : St P T p i g f) (hp : p < P.length) (hi : i < T.length) (hc : P.getD p 0 ≠ 42) (ho : P.getD p 0 = 63 ∨ P.getD p 0 = T.getD i 0) : St P T (p + 1) (i + 1) g f := by
  have hd := drop_at8 hp
  have he := drop_at8 hi
  cases g with
  | none =>
    refine ⟨by omega, by omega, h.2.2.1, ?_⟩
    rw [h.2.2.2, hd, he, Mt.one hc]
    constructor
    · rintro ⟨x, t, e, _, hm⟩
      injection e with e1 e2
      rw [e2]; exact hm
    · intro hm; exact ⟨_, _, rfl, ho, hm⟩
  | some g =>
    have h : Back P T p i g f := h
    have hgp := h.gp
    have hfi := h.fi
    have e1 : (P.drop (g + 1)).take (p + 1 - (g + 1)) = (P.drop (g + 1)).take (p - (g + 1)) ++ [P.getD p 0] := by
      have hl : p - (g + 1) < (P.drop (g + 1)).length := by rw [List.length_drop]; omega
      rw [show p + 1 - (g + 1) = (p - (g + 1)) + 1 by omega, List.take_succ_eq_append_getElem hl, List.getElem_drop]
      congr 2
      simp only [show g + 1 + (p - (g + 1)) = p by omega]
      simp [List.getD, hp]
    have e2 : (T.drop f).take (i + 1 - f) = (T.drop f).take (i - f) ++ [T.getD i 0] := by
      have hl : i - f < (T.drop f).length := by rw [List.length_drop]; omega
      rw [show i + 1 - f = (i - f) + 1 by omega, List.take_succ_eq_append_getElem hl, List.getElem_drop]
      congr 2
      simp only [show f + (i - f) = i by omega]
      simp [List.getD, hi]
    refine ⟨by omega, by omega, by omega, by omega, ?_, ?_, h.want⟩
    · rw [e1, List.mem_append]
      rintro (q | q)
      · exact h.seg q
      · simp at q; exact hc q.symm
    · rw [e1, e2]
      exact (Mt.snoc_one hc _ _).2 ⟨_, _, rfl, ho, h.fits⟩
/-- It does not go on: no star. -/
theorem St.fail {P T : List Nat} {p i f : Nat} (h : St P T p i none f) (hi : i < T.length) (hb : ¬ Mt (P.drop p) (T.drop i)) : ¬ Mt P T := fun hm => hb (h.2.2.2.1 hm)
/-- Back to the star, one further. -/
theorem St.back {P T : List Nat} {p i g f : Nat} (h : St P T p i (some g) f) (hi : i < T.length) (hb : ¬ Mt (P.drop p) (T.drop i)) : St P T (g + 1) (f + 1) (some g) (f + 1) := by
  have h : Back P T p i g f := h
  have hfi := h.fi
  have hgp := h.gp
  have hpP := h.pP
  refine ⟨by omega, by omega, Nat.le_refl _, by omega, by simp, by simp [Mt], ?_⟩
  rw [h.want]
  constructor
  · rintro ⟨j, h1, h2, hm⟩
    rcases Nat.lt_or_ge f j with q | q
    · exact ⟨j, q, h2, hm⟩
    · obtain rfl : j = f := by omega
      exact absurd (h.at_f.1 hm) hb
  · rintro ⟨j, h1, h2, hm⟩
    exact ⟨j, by omega, h2, hm⟩
/-- What stops the search. -/
theorem no_fit {P T : List Nat} {p i : Nat} (hi : i < T.length) (h : P.length ≤ p ∨ (p < P.length ∧ P.getD p 0 ≠ 42 ∧ P.getD p 0 ≠ 63 ∧ P.getD p 0 ≠ T.getD i 0)) : ¬ Mt (P.drop p) (T.drop i) := by
  rw [drop_at8 hi]
  rcases h with h | ⟨h1, h2, h3, h4⟩
  · rw [List.drop_eq_nil_of_le h, Mt.nil]; simp
  · rw [drop_at8 h1, Mt.one h2]
    rintro ⟨x, t, e, ho, _⟩
    injection e with e1 _
    subst e1
    rcases ho with ho | ho
    · exact h3 ho
    · exact h4 ho
/-- The text is at its end. -/
theorem St.done {P T : List Nat} {p f : Nat} {g : Option Nat} (h : St P T p T.length g f) : Mt P T ↔ ∀ x ∈ P.drop p, x = 42 := by
  rw [← Mt.empty]
  cases g with
  | none => rw [h.2.2.2, List.drop_length]
  | some g =>
    have h : Back P T p T.length g f := h
    have hfi := h.fi
    rw [h.want]
    constructor
    · rintro ⟨j, h1, h2, hm⟩
      obtain ⟨h3, h4⟩ := h.goes h1 h2 hm
      have hj : j = f := by omega
      subst hj
      rw [show j + (T.length - j) = T.length by omega, List.drop_length] at h4
      exact h4
    · intro hm
      refine ⟨f, Nat.le_refl _, hfi, h.at_f.2 ?_⟩
      rw [List.drop_length]; exact hm
end Go.Proofs.YtgeikbcfjidgcaaDoor
