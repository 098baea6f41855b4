/- Sets of numbers as lists: plain mathematics. -/
namespace Go.Proofs.Ytoldjpnkgdhpkaa
set_option linter.unusedVariables false

abbrev Asc (l : List Int) : Prop := l.Pairwise (· < ·)

theorem asc_ext : ∀ {l m : List Int}, Asc l → Asc m → (∀ z, z ∈ l ↔ z ∈ m) → l = m
  | [], [], _, _, _ => rfl
  | [], y :: m, _, _, h => by have := (h y).2 (by simp); simp at this
  | x :: l, [], _, _, h => by have := (h x).1 (by simp); simp at this
  | x :: l, y :: m, hl, hm, h => by
    rw [Asc, List.pairwise_cons] at hl hm
    have hxy : x = y := by
      have h1 := (h x).1 (by simp)
      have h2 := (h y).2 (by simp)
      rw [List.mem_cons] at h1 h2
      rcases h1 with h1 | h1
      · exact h1
      · rcases h2 with h2 | h2
        · exact h2.symm
        · have := hl.1 _ h2; have := hm.1 _ h1; omega
    subst hxy
    have : l = m := asc_ext hl.2 hm.2 fun z => by
      have hz := h z
      rw [List.mem_cons, List.mem_cons] at hz
      constructor
      · intro hzl
        rcases hz.1 (.inr hzl) with e | e
        · subst e; exact absurd (hl.1 _ hzl) (by omega)
        · exact e
      · intro hzm
        rcases hz.2 (.inr hzm) with e | e
        · subst e; exact absurd (hm.1 _ hzm) (by omega)
        · exact e
    rw [this]

/-- Ascending from above lo up to n. -/
def setFrom (lo n : Int) : List Int → Bool
  | [] => true
  | x :: l => decide (lo < x) && decide (x ≤ n) && setFrom x n l

def isSetB (n : Int) (l : List Int) : Bool := setFrom 0 n l

theorem setFrom_iff (n : Int) : ∀ (l : List Int) (lo : Int), setFrom lo n l = true ↔ (∀ x ∈ l, lo < x ∧ x ≤ n) ∧ Asc l
  | [], lo => by simp [setFrom, Asc]
  | x :: l, lo => by
    simp only [setFrom, Bool.and_eq_true, decide_eq_true_eq, setFrom_iff n l x, List.mem_cons, Asc, List.pairwise_cons]
    constructor
    · rintro ⟨⟨h1, h2⟩, h3, h4⟩
      refine ⟨?_, fun y hy => (h3 y hy).1, h4⟩
      rintro y (rfl | hy)
      · exact ⟨h1, h2⟩
      · have := h3 y hy; exact ⟨by omega, this.2⟩
    · rintro ⟨h1, h2, h3⟩
      exact ⟨h1 x (.inl rfl), fun y hy => ⟨h2 y hy, (h1 y (.inr hy)).2⟩, h3⟩

theorem isSetB_iff (n : Int) (l : List Int) : isSetB n l = true ↔ (∀ x ∈ l, 1 ≤ x ∧ x ≤ n) ∧ Asc l := by
  unfold isSetB; rw [setFrom_iff]
  constructor
  · rintro ⟨h, k⟩; exact ⟨fun x hx => by have := h x hx; omega, k⟩
  · rintro ⟨h, k⟩; exact ⟨fun x hx => by have := h x hx; omega, k⟩

/-- A set of numbers of records. -/
def IsS (l : List Int) : Prop := (∀ x ∈ l, 1 ≤ x ∧ x ≤ 300) ∧ Asc l
theorem IsS.iff (l : List Int) : isSetB 300 l = true ↔ IsS l := isSetB_iff 300 l
theorem IsS.ext {l m : List Int} (hl : IsS l) (hm : IsS m) (h : ∀ z, z ∈ l ↔ z ∈ m) : l = m := asc_ext hl.2 hm.2 h
theorem IsS.filter {l : List Int} (h : IsS l) (p : Int → Bool) : IsS (l.filter p) :=
  ⟨fun x hx => h.1 x (List.mem_filter.1 hx).1, h.2.filter p⟩
theorem asc_len : ∀ (l : List Int) (lo n : Int), (∀ x ∈ l, lo < x ∧ x ≤ n) → Asc l → (l.length : Int) ≤ max 0 (n - lo)
  | [], _, _, _, _ => by simp; omega
  | x :: l, lo, n, h, ha => by
    rw [Asc, List.pairwise_cons] at ha
    have hx := h x (by simp)
    have := asc_len l x n (fun y hy => ⟨ha.1 y hy, (h y (by simp [hy])).2⟩) ha.2
    simp only [List.length_cons]; omega
theorem IsS.length_le {l : List Int} (h : IsS l) : l.length ≤ 300 := by
  have := asc_len l 0 300 (fun x hx => by have := h.1 x hx; omega) h.2
  omega

/-- What the merging of two ascending lists keeps: p of those in the first alone, q of those in the second alone, r of those in both. -/
def em (c : Bool) (x : Int) (l : List Int) : List Int := if c then x :: l else l

def mergeK (p q r : Bool) : List Int → List Int → List Int
  | [], [] => []
  | x :: a, [] => em p x (mergeK p q r a [])
  | [], y :: b => em q y (mergeK p q r [] b)
  | x :: a, y :: b => if x < y then em p x (mergeK p q r a (y :: b)) else if y < x then em q y (mergeK p q r (x :: a) b) else em r x (mergeK p q r a b)
termination_by a b => a.length + b.length

theorem mem_em (c : Bool) (x : Int) (l : List Int) (z : Int) : z ∈ em c x l ↔ (c = true ∧ z = x) ∨ z ∈ l := by
  unfold em; cases c <;> simp

theorem mergeK_len (p q r : Bool) : ∀ (a b : List Int), (mergeK p q r a b).length ≤ a.length + b.length := by
  have he : ∀ (c : Bool) (x : Int) (l : List Int), (em c x l).length ≤ l.length + 1 := fun c x l => by unfold em; cases c <;> simp
  intro a b
  induction a, b using mergeK.induct with
  | case1 => simp [mergeK]
  | case2 x a ih => rw [mergeK]; have := he p x (mergeK p q r a []); simp only [List.length_cons, List.length_nil] at *; omega
  | case3 y b ih => rw [mergeK]; have := he q y (mergeK p q r [] b); simp only [List.length_cons, List.length_nil] at *; omega
  | case4 x a y b h ih => rw [mergeK, if_pos h]; have := he p x (mergeK p q r a (y :: b)); simp only [List.length_cons] at *; omega
  | case5 x a y b h h' ih => rw [mergeK, if_neg h, if_pos h']; have := he q y (mergeK p q r (x :: a) b); simp only [List.length_cons] at *; omega
  | case6 x a y b h h' ih => rw [mergeK, if_neg h, if_neg h']; have := he r x (mergeK p q r a b); simp only [List.length_cons] at *; omega

theorem mem_mergeK (p q r : Bool) (z : Int) : ∀ (a b : List Int), Asc a → Asc b →
    (z ∈ mergeK p q r a b ↔ (p = true ∧ z ∈ a ∧ z ∉ b) ∨ (q = true ∧ z ∉ a ∧ z ∈ b) ∨ (r = true ∧ z ∈ a ∧ z ∈ b)) := by
  intro a b
  induction a, b using mergeK.induct with
  | case1 => intros; simp [mergeK]
  | case2 x a ih =>
    intro ha hb
    rw [Asc, List.pairwise_cons] at ha
    rw [mergeK, mem_em, ih ha.2 hb]
    simp only [List.mem_cons, List.not_mem_nil, not_false_eq_true, and_true, and_false, or_false]
    by_cases hz : z = x <;> cases p <;> simp [hz]
  | case3 y b ih =>
    intro ha hb
    rw [Asc, List.pairwise_cons] at hb
    rw [mergeK, mem_em, ih ha hb.2]
    simp only [List.mem_cons, List.not_mem_nil, not_false_eq_true, and_false, or_false, true_and, false_and, false_or]
    by_cases hz : z = y <;> cases q <;> simp [hz]
  | case4 x a y b h ih =>
    intro ha hb
    have ha' := ha; have hb' := hb
    rw [Asc, List.pairwise_cons] at ha hb
    rw [mergeK, if_pos h, mem_em, ih ha.2 hb']
    have hxa : x ∉ a := fun hx => by have := ha.1 x hx; omega
    have hxb : x ∉ y :: b := by
      rw [List.mem_cons]; rintro (e | e)
      · omega
      · have := hb.1 x e; omega
    generalize y :: b = B at *
    by_cases hz : z = x
    · subst hz; simp [hxa, hxb]
    · simp [hz, List.mem_cons]
  | case5 x a y b h h' ih =>
    intro ha hb
    have ha' := ha; have hb' := hb
    rw [Asc, List.pairwise_cons] at ha hb
    rw [mergeK, if_neg h, if_pos h', mem_em, ih ha' hb.2]
    have hyb : y ∉ b := fun hx => by have := hb.1 y hx; omega
    have hya : y ∉ x :: a := by
      rw [List.mem_cons]; rintro (e | e)
      · omega
      · have := ha.1 y e; omega
    generalize x :: a = A at *
    by_cases hz : z = y
    · subst hz; simp [hya, hyb]
    · simp [hz, List.mem_cons]
  | case6 x a y b h h' ih =>
    intro ha hb
    obtain rfl : x = y := by omega
    rw [Asc, List.pairwise_cons] at ha hb
    rw [mergeK, if_neg h, if_neg h', mem_em, ih ha.2 hb.2]
    have hxa : x ∉ a := fun hx => by have := ha.1 x hx; omega
    have hxb : x ∉ b := fun hx => by have := hb.1 x hx; omega
    by_cases hz : z = x
    · subst hz; simp [hxa, hxb]
    · simp [hz, List.mem_cons]

theorem mem_merge_or (p q r : Bool) (z : Int) : ∀ (a b : List Int), z ∈ mergeK p q r a b → z ∈ a ∨ z ∈ b := by
  intro a b
  induction a, b using mergeK.induct with
  | case1 => simp [mergeK]
  | case2 x a ih => rw [mergeK, mem_em]; rintro (⟨_, rfl⟩ | h); · simp
                    · rcases ih h with h | h <;> simp [h] at *
  | case3 y b ih => rw [mergeK, mem_em]; rintro (⟨_, rfl⟩ | h); · simp
                    · rcases ih h with h | h <;> simp [h] at *
  | case4 x a y b hh ih => rw [mergeK, if_pos hh, mem_em]; rintro (⟨_, rfl⟩ | h); · simp
                           · rcases ih h with h | h
                             · exact .inl (by simp [h])
                             · exact .inr h
  | case5 x a y b hh hh' ih => rw [mergeK, if_neg hh, if_pos hh', mem_em]; rintro (⟨_, rfl⟩ | h); · simp
                               · rcases ih h with h | h
                                 · exact .inl h
                                 · exact .inr (by simp [h])
  | case6 x a y b hh hh' ih => rw [mergeK, if_neg hh, if_neg hh', mem_em]; rintro (⟨_, rfl⟩ | h); · simp
                               · rcases ih h with h | h
                                 · exact .inl (by simp [h])
                                 · exact .inr (by simp [h])

theorem asc_em (c : Bool) (x : Int) (l : List Int) (h : Asc l) (hx : ∀ z ∈ l, x < z) : Asc (em c x l) := by
  unfold em; cases c
  · simpa using h
  · simp only [if_true]; exact List.pairwise_cons.2 ⟨hx, h⟩

theorem asc_mergeK (p q r : Bool) : ∀ (a b : List Int), Asc a → Asc b → Asc (mergeK p q r a b) := by
  intro a b
  induction a, b using mergeK.induct with
  | case1 => intros; simp [mergeK, Asc]
  | case2 x a ih =>
    intro ha hb
    rw [Asc, List.pairwise_cons] at ha
    rw [mergeK]
    refine asc_em _ _ _ (ih ha.2 hb) fun z hz => ?_
    rcases mem_merge_or _ _ _ _ _ _ hz with h | h
    · exact ha.1 z h
    · simp at h
  | case3 y b ih =>
    intro ha hb
    rw [Asc, List.pairwise_cons] at hb
    rw [mergeK]
    refine asc_em _ _ _ (ih ha hb.2) fun z hz => ?_
    rcases mem_merge_or _ _ _ _ _ _ hz with h | h
    · simp at h
    · exact hb.1 z h
  | case4 x a y b hh ih =>
    intro ha hb
    have hb' := hb
    rw [Asc, List.pairwise_cons] at ha hb
    rw [mergeK, if_pos hh]
    refine asc_em _ _ _ (ih ha.2 hb') fun z hz => ?_
    rcases mem_merge_or _ _ _ _ _ _ hz with h | h
    · exact ha.1 z h
    · rcases List.mem_cons.1 h with h | h
      · omega
      · have := hb.1 z h; omega
  | case5 x a y b hh hh' ih =>
    intro ha hb
    have ha' := ha
    rw [Asc, List.pairwise_cons] at ha hb
    rw [mergeK, if_neg hh, if_pos hh']
    refine asc_em _ _ _ (ih ha' hb.2) fun z hz => ?_
    rcases mem_merge_or _ _ _ _ _ _ hz with h | h
    · rcases List.mem_cons.1 h with h | h
      · omega
      · have := ha.1 z h; omega
    · exact hb.1 z h
  | case6 x a y b hh hh' ih =>
    intro ha hb
    obtain rfl : x = y := by omega
    rw [Asc, List.pairwise_cons] at ha hb
    rw [mergeK, if_neg hh, if_neg hh']
    refine asc_em _ _ _ (ih ha.2 hb.2) fun z hz => ?_
    rcases mem_merge_or _ _ _ _ _ _ hz with h | h
    · exact ha.1 z h
    · exact hb.1 z h

theorem IsS.merge {a b : List Int} (ha : IsS a) (hb : IsS b) (p q r : Bool) : IsS (mergeK p q r a b) :=
  ⟨fun x hx => (mem_merge_or p q r x a b hx).elim (ha.1 x) (hb.1 x), asc_mergeK p q r a b ha.2 hb.2⟩

/-- The three sets. -/
abbrev interL (a b : List Int) := mergeK false false true a b
abbrev unionL (a b : List Int) := mergeK true true true a b
abbrev lessL (a b : List Int) := mergeK true false false a b
theorem interL_eq {a b : List Int} (ha : Asc a) (hb : Asc b) : a.filter (fun x => decide (x ∈ b)) = interL a b :=
  asc_ext (ha.filter _) (asc_mergeK _ _ _ a b ha hb) fun z => by rw [mem_mergeK _ _ _ z a b ha hb]; simp
theorem lessL_eq {a b : List Int} (ha : Asc a) (hb : Asc b) : a.filter (fun x => !decide (x ∈ b)) = lessL a b :=
  asc_ext (ha.filter _) (asc_mergeK _ _ _ a b ha hb) fun z => by rw [mem_mergeK _ _ _ z a b ha hb]; simp

/-- The numbers from 1 to n. -/
def upTo (n : Nat) : List Int := (List.range n).map fun (i : Nat) => (i : Int) + 1
theorem upTo_succ (n : Nat) : upTo (n + 1) = upTo n ++ [(n : Int) + 1] := by simp [upTo, List.range_succ]
theorem upTo_len (n : Nat) : (upTo n).length = n := by simp [upTo]
theorem mem_upTo (n : Nat) (z : Int) : z ∈ upTo n ↔ 1 ≤ z ∧ z ≤ n := by
  simp only [upTo, List.mem_map, List.mem_range]
  constructor
  · rintro ⟨i, hi, rfl⟩; omega
  · rintro ⟨h1, h2⟩; exact ⟨(z - 1).toNat, by omega, by omega⟩
theorem asc_upTo (n : Nat) : Asc (upTo n) := by
  induction n with
  | zero => simp [upTo, Asc]
  | succ n ih =>
    rw [upTo_succ]
    refine List.pairwise_append.2 ⟨ih, by simp, ?_⟩
    intro a ha b hb
    rw [mem_upTo] at ha
    simp at hb; omega
theorem isS_upTo {n : Nat} (h : n ≤ 300) : IsS (upTo n) := ⟨fun x hx => by rw [mem_upTo] at hx; omega, asc_upTo n⟩
theorem unionL_eq {a b : List Int} (ha : IsS a) (hb : IsS b) : (upTo 300).filter (fun x => decide (x ∈ a) || decide (x ∈ b)) = unionL a b :=
  asc_ext ((asc_upTo 300).filter _) (asc_mergeK _ _ _ a b ha.2 hb.2) fun z => by
    rw [mem_mergeK _ _ _ z a b ha.2 hb.2]
    simp only [List.mem_filter, mem_upTo, Bool.or_eq_true, decide_eq_true_eq, true_and]
    have h1 := ha.1 z; have h2 := hb.1 z
    constructor
    · rintro ⟨_, h | h⟩
      · by_cases hz : z ∈ b <;> simp [h, hz]
      · by_cases hz : z ∈ a <;> simp [h, hz]
    · rintro (⟨h, _⟩ | ⟨_, h⟩ | ⟨h, _⟩)
      · exact ⟨by have := h1 h; omega, .inl h⟩
      · exact ⟨by have := h2 h; omega, .inr h⟩
      · exact ⟨by have := h1 h; omega, .inl h⟩

theorem lessL_nil_iff {a b : List Int} (ha : Asc a) (hb : Asc b) : lessL a b = [] ↔ ∀ x ∈ a, x ∈ b := by
  rw [← lessL_eq ha hb, List.filter_eq_nil_iff]; simp
end Go.Proofs.Ytoldjpnkgdhpkaa
