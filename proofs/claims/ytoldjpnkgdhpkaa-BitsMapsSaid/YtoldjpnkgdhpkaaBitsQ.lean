/- Sets packed as gaps and stretches, and read again: plain mathematics. -/
import Derived.Test.YtoldjpnkgdhpkaaBitsO
namespace Go.Proofs.Ytoldjpnkgdhpkaa
set_option linter.unusedVariables false

/-- The numbers from a on, n of them. -/
def seg (a : Int) (n : Nat) : List Int := (List.range n).map fun (i : Nat) => a + i
theorem seg_succ (a : Int) (n : Nat) : seg a (n + 1) = seg a n ++ [a + n] := by simp [seg, List.range_succ]
theorem seg_len (a : Int) (n : Nat) : (seg a n).length = n := by simp [seg]
theorem mem_seg (a : Int) (n : Nat) (z : Int) : z ∈ seg a n ↔ a ≤ z ∧ z < a + n := by
  simp only [seg, List.mem_map, List.mem_range]
  constructor
  · rintro ⟨i, h, rfl⟩; omega
  · rintro ⟨h1, h2⟩; exact ⟨(z - a).toNat, by omega, by omega⟩
theorem asc_seg (a : Int) (n : Nat) : Asc (seg a n) := by
  unfold seg Asc
  rw [List.pairwise_map]
  exact List.pairwise_lt_range.imp fun {i j} h => by omega

def takeL : List Int → Option (Int × List Int)
  | [] => none
  | x :: r => if x < 128 then some (x, r) else match r with
    | [] => none
    | y :: r => some (x - 128 + 128 * y, r)
theorem takeL_len {bs : List Int} {g : Int} {r : List Int} (h : takeL bs = some (g, r)) : r.length < bs.length := by
  unfold takeL at h
  split at h
  · cases h
  · split at h
    · cases h; simp
    · split at h
      · cases h
      · cases h; simp; omega

/-- What is read behind the numbers acc, the next number being next. -/
def unpackGo (acc : List Int) (next : Int) (bs : List Int) : Option (List Int) :=
  match bs with
  | [] => some acc
  | x :: t =>
    match h : takeL (x :: t) with
    | none => none
    | some (gap, r) =>
      match h' : takeL r with
      | none => none
      | some (more, r') => if next + gap + more > 300 then none else unpackGo (acc ++ seg (next + gap) (more.toNat + 1)) (next + gap + more + 1) r'
termination_by bs.length
decreasing_by
  have h1 := takeL_len h; have h2 := takeL_len h'; omega

theorem unpackGo_nil (acc : List Int) (next : Int) : unpackGo acc next [] = some acc := by rw [unpackGo]
theorem unpackGo_none1 (acc : List Int) (next : Int) {bs : List Int} (hne : bs ≠ []) (h : takeL bs = none) : unpackGo acc next bs = none := by
  obtain ⟨x, t, rfl⟩ := List.exists_cons_of_ne_nil hne
  rw [unpackGo]; split
  · rfl
  · rename_i h'; rw [h] at h'; cases h'
theorem unpackGo_none2 (acc : List Int) (next : Int) {bs : List Int} {g : Int} {r : List Int} (h : takeL bs = some (g, r)) (h2 : takeL r = none) : unpackGo acc next bs = none := by
  have hne : bs ≠ [] := by rintro rfl; simp [takeL] at h
  obtain ⟨x, t, rfl⟩ := List.exists_cons_of_ne_nil hne
  rw [unpackGo]; split
  · rfl
  · rename_i h'; rw [h] at h'; cases h'
    split
    · rfl
    · rename_i h3; rw [h2] at h3; cases h3
theorem unpackGo_step (acc : List Int) (next : Int) {bs : List Int} {g m : Int} {r r' : List Int} (h : takeL bs = some (g, r)) (h2 : takeL r = some (m, r')) :
    unpackGo acc next bs = if next + g + m > 300 then none else unpackGo (acc ++ seg (next + g) (m.toNat + 1)) (next + g + m + 1) r' := by
  have hne : bs ≠ [] := by rintro rfl; simp [takeL] at h
  obtain ⟨x, t, rfl⟩ := List.exists_cons_of_ne_nil hne
  rw [unpackGo]; split
  · rename_i h'; rw [h] at h'; cases h'
  · rename_i h'; rw [h] at h'; cases h'
    split
    · rename_i h3; rw [h2] at h3; cases h3
    · rename_i h3; rw [h2] at h3; cases h3
      rfl

def bytesOk (bs : List Int) : Prop := ∀ x ∈ bs, 0 ≤ x ∧ x ≤ 255
theorem takeL_ok {bs : List Int} {g : Int} {r : List Int} (h : takeL bs = some (g, r)) (hb : bytesOk bs) : 0 ≤ g ∧ g ≤ 32767 ∧ bytesOk r := by
  rcases bs with _ | ⟨x, t⟩
  · cases h
  · have hx := hb x (by simp)
    by_cases hlt : x < 128
    · simp only [takeL, if_pos hlt] at h
      cases h; exact ⟨by omega, by omega, fun y hy => hb y (by simp [hy])⟩
    · rcases t with _ | ⟨y, t⟩
      · simp [takeL, if_neg hlt] at h
      · have hy := hb y (by simp)
        simp only [takeL, if_neg hlt] at h
        cases h; exact ⟨by omega, by omega, fun z hz => hb z (by simp [hz])⟩

/-- What has been read is a set below the next number. -/
def Upto (acc : List Int) (next : Int) : Prop := (∀ x ∈ acc, 1 ≤ x ∧ x < next) ∧ Asc acc
theorem Upto.step {acc : List Int} {next g m : Int} (h : Upto acc next) (hn : 1 ≤ next) (hg : 0 ≤ g) (hm : 0 ≤ m) : Upto (acc ++ seg (next + g) (m.toNat + 1)) (next + g + m + 1) := by
  refine ⟨fun x hx => ?_, List.pairwise_append.2 ⟨h.2, asc_seg _ _, fun a ha b hb => ?_⟩⟩
  · rcases List.mem_append.1 hx with hx | hx
    · have := h.1 x hx; omega
    · rw [mem_seg] at hx; omega
  · have := h.1 a ha; rw [mem_seg] at hb; omega
theorem unpackGo_set : ∀ (n : Nat) (bs : List Int) (acc : List Int) (next : Int) (out : List Int), bs.length = n → bytesOk bs → 1 ≤ next → next ≤ 301 → Upto acc next → unpackGo acc next bs = some out → IsS out := by
  intro n
  induction n using Nat.strongRecOn with
  | _ n ih =>
    intro bs acc next out hn hb h1 h2 hu h
    rcases bs with _ | ⟨x, t⟩
    · rw [unpackGo_nil] at h; cases h
      exact ⟨fun x hx => by have := hu.1 x hx; omega, hu.2⟩
    · cases ht : takeL (x :: t) with
      | none => rw [unpackGo_none1 _ _ (by simp) ht] at h; cases h
      | some p =>
        obtain ⟨g, r⟩ := p
        cases ht2 : takeL r with
        | none => rw [unpackGo_none2 _ _ ht ht2] at h; cases h
        | some p =>
          obtain ⟨m, r'⟩ := p
          have ok1 := takeL_ok ht hb
          have ok2 := takeL_ok ht2 ok1.2.2
          have l1 := takeL_len ht; have l2 := takeL_len ht2
          rw [unpackGo_step _ _ ht ht2] at h
          split at h
          · cases h
          · exact ih r'.length (by omega) r' _ _ out rfl ok2.2.2 (by omega) (by omega) (hu.step h1 ok1.1 ok2.1) h

/-- The set of bytes: what is read must be packed so. -/
def unpackL (bs : List Int) : Option (List Int) :=
  match unpackGo [] 1 bs with
  | some out => if packL 1 (rangesL out) = bs then some out else none
  | none => none

theorem takeL_num (n : Int) (r : List Int) (h0 : 0 ≤ n) : takeL (numL n ++ r) = some (n, r) := by
  unfold numL
  by_cases h : n < 128
  · rw [if_pos h]; simp [takeL, h]
  · rw [if_neg h]
    show (if 128 + n % 128 < 128 then _ else some (128 + n % 128 - 128 + 128 * (n / 128), r)) = _
    rw [if_neg (by omega), show 128 + n % 128 - 128 + 128 * (n / 128) = n by omega]

/-- Stretches one behind the other, from next on. -/
def Chain : Int → List (Int × Int) → Prop
  | _, [] => True
  | next, (a, b) :: rs => next ≤ a ∧ a ≤ b ∧ b ≤ 300 ∧ Chain (b + 1) rs
def expand : List (Int × Int) → List Int
  | [] => []
  | (a, b) :: rs => seg a ((b - a).toNat + 1) ++ expand rs
theorem unpackGo_pack : ∀ (rs : List (Int × Int)) (acc : List Int) (next : Int), Chain next rs → unpackGo acc next (packL next rs) = some (acc ++ expand rs)
  | [], acc, next, _ => by rw [packL, unpackGo_nil, expand, List.append_nil]
  | (a, b) :: rs, acc, next, ⟨h1, h2, h3, h4⟩ => by
    rw [packL, List.append_assoc, unpackGo_step acc next (takeL_num _ _ (by omega)) (takeL_num _ _ (by omega)), if_neg (by omega),
      show next + (a - next) + (b - a) + 1 = b + 1 by omega, unpackGo_pack rs _ _ h4, expand, show next + (a - next) = a by omega, List.append_assoc]

theorem expand_append : ∀ (r s : List (Int × Int)), expand (r ++ s) = expand r ++ expand s
  | [], s => rfl
  | (a, b) :: r, s => by rw [List.cons_append, expand, expand, expand_append r s, List.append_assoc]
theorem Chain_append : ∀ (r s : List (Int × Int)) (next : Int), Chain next (r ++ s) ↔ Chain next r ∧ Chain (match r.getLast? with | some p => p.2 + 1 | none => next) s
  | [], s, next => by simp [Chain]
  | [(a, b)], s, next => by simp [Chain]; 
                            constructor
                            · rintro ⟨h1, h2, h3, h4⟩; exact ⟨⟨h1, h2, h3⟩, h4⟩
                            · rintro ⟨⟨h1, h2, h3⟩, h4⟩; exact ⟨h1, h2, h3, h4⟩
  | (a, b) :: p :: r, s, next => by
    have ih := Chain_append (p :: r) s (b + 1)
    obtain ⟨q, hq⟩ : ∃ q, (p :: r).getLast? = some q := by
      cases h : (p :: r).getLast? with
      | none => simp at h
      | some q => exact ⟨q, rfl⟩
    rw [hq] at ih
    rw [List.getLast?_cons_cons, hq]
    show (next ≤ a ∧ a ≤ b ∧ b ≤ 300 ∧ Chain (b + 1) (p :: r ++ s)) ↔ (next ≤ a ∧ a ≤ b ∧ b ≤ 300 ∧ Chain (b + 1) (p :: r)) ∧ _
    rw [ih]
    constructor
    · rintro ⟨h1, h2, h3, h4, h5⟩; exact ⟨⟨h1, h2, h3, h4⟩, h5⟩
    · rintro ⟨⟨h1, h2, h3, h4⟩, h5⟩; exact ⟨h1, h2, h3, h4, h5⟩

theorem rangesL_ok : ∀ (m : Nat) (l : List Int), l.length = m → IsS l → Chain 1 (rangesL l) ∧ expand (rangesL l) = l ∧ (rangesL l).getLast?.map (·.2) = l.getLast? := by
  intro m
  induction m with
  | zero => intro l hl _; rw [List.length_eq_zero_iff] at hl; subst hl; simp [rangesL, Chain, expand]
  | succ m ih =>
    intro l hl hs
    have hne : l ≠ [] := by intro e; simp [e] at hl
    obtain ⟨l', k, rfl⟩ : ∃ l' k, l = l' ++ [k] := ⟨l.dropLast, l.getLast hne, (List.dropLast_concat_getLast hne).symm⟩
    have hk := hs.1 k (by simp)
    have ha := hs.2
    rw [Asc, List.pairwise_append] at ha
    have hs' : IsS l' := ⟨fun x hx => hs.1 x (by simp [hx]), ha.1⟩
    obtain ⟨i1, i2, i3⟩ := ih l' (by simpa using hl) hs'
    rw [rangesL_snoc]
    generalize rangesL l' = R at *
    rcases List.eq_nil_or_concat R with rfl | ⟨R', ⟨a, b⟩, rfl⟩
    · simp only [expand] at i2
      subst i2
      refine ⟨?_, ?_, ?_⟩
      · simp [rgStep, Chain]; omega
      · simp [rgStep, expand, seg]
      · simp [rgStep]
    · rw [List.concat_eq_append] at *
      rw [List.getLast?_concat] at i3
      simp only [Option.map_some] at i3
      have hbl : b ∈ l' := List.mem_of_getLast? i3.symm
      have hbk := ha.2.2 b hbl k (by simp)
      rw [Chain_append] at i1
      rw [expand_append] at i2
      by_cases h : b = k - 1
      · have e : rgStep (R' ++ [(a, b)]) k = R' ++ [(a, k)] := by simp [rgStep, h]
        rw [e, Chain_append, expand_append]
        have hc := i1.2
        simp only [Chain, and_true] at hc ⊢
        refine ⟨⟨i1.1, by omega, by omega, by omega⟩, ?_, by simp⟩
        simp only [expand, List.append_nil] at i2 ⊢
        rw [show (k - a).toNat + 1 = ((b - a).toNat + 1) + 1 by omega, seg_succ, ← List.append_assoc, i2, show a + (((b - a).toNat + 1 : Nat) : Int) = k by omega]
      · have e : rgStep (R' ++ [(a, b)]) k = R' ++ [(a, b)] ++ [(k, k)] := by simp [rgStep, h]
        rw [e, Chain_append, expand_append, Chain_append, expand_append, i2, List.getLast?_concat]
        refine ⟨⟨i1, ?_⟩, ?_, by simp⟩
        · simp only [Chain, and_true]; omega
        · simp [expand, seg]

theorem unpackL_packL (l : List Int) (h : IsS l) : unpackL (packL 1 (rangesL l)) = some l := by
  obtain ⟨h1, h2, _⟩ := rangesL_ok _ l rfl h
  unfold unpackL
  rw [unpackGo_pack _ _ _ h1, h2]
  simp

theorem numL_ok (n : Int) (h0 : 0 ≤ n) (h1 : n ≤ 32767) : bytesOk (numL n) ∧ (numL n).length ≤ 2 := by
  unfold numL bytesOk; split
  · simp; omega
  · simp; omega
theorem packL_ok : ∀ (rs : List (Int × Int)) (next : Int), 0 ≤ next → Chain next rs → bytesOk (packL next rs)
  | [], _, _, _ => by intro x hx; simp [packL] at hx
  | (a, b) :: rs, next, hn, ⟨h1, h2, h3, h4⟩ => by
    intro x hx
    rw [packL, List.mem_append, List.mem_append] at hx
    rcases hx with (hx | hx) | hx
    · exact (numL_ok _ (by omega) (by omega)).1 x hx
    · exact (numL_ok _ (by omega) (by omega)).1 x hx
    · exact packL_ok rs (b + 1) (by omega) h4 x hx
end Go.Proofs.Ytoldjpnkgdhpkaa
