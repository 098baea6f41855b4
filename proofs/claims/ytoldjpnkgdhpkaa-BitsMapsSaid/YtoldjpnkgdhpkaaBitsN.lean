/- Stretches of sets, numbers moved together, bytes of bits: plain mathematics. -/
import Derived.Test.YtoldjpnkgdhpkaaBitsM
namespace Go.Proofs.Ytoldjpnkgdhpkaa
set_option linter.unusedVariables false

/-- One more number behind stretches. -/
def rgStep (acc : List (Int × Int)) (k : Int) : List (Int × Int) :=
  match acc.getLast? with
  | some (a, b) => if b = k - 1 then acc.dropLast ++ [(a, k)] else acc ++ [(k, k)]
  | none => acc ++ [(k, k)]
def rangesL (l : List Int) : List (Int × Int) := l.foldl rgStep []

theorem rgStep_ne (acc : List (Int × Int)) (k : Int) : rgStep acc k ≠ [] := by
  unfold rgStep; split
  · split <;> simp
  · simp
theorem rgStep_last (acc : List (Int × Int)) (k : Int) : ∃ a, (rgStep acc k).getLast? = some (a, k) := by
  unfold rgStep; split
  · split <;> simp
  · simp
theorem rangesL_snoc (l : List Int) (k : Int) : rangesL (l ++ [k]) = rgStep (rangesL l) k := by simp [rangesL]
theorem rangesL_last (l : List Int) (x : Int) : ∃ a, (rangesL (l ++ [x])).getLast? = some (a, x) := by
  rw [rangesL_snoc]; exact rgStep_last _ _
theorem rgStep_len (acc : List (Int × Int)) (k : Int) : acc.length ≤ (rgStep acc k).length ∧ (rgStep acc k).length ≤ acc.length + 1 := by
  unfold rgStep; split
  · split
    · have : acc.length ≠ 0 := by rename_i h _; intro h0; rw [List.length_eq_zero_iff.1 h0] at h; simp at h
      simp; omega
    · simp
  · simp
theorem rangesL_len (l : List Int) : (rangesL l).length ≤ l.length := by
  suffices h : ∀ (l : List Int) (acc : List (Int × Int)), (l.foldl rgStep acc).length ≤ acc.length + l.length by simpa [rangesL] using h l []
  intro l
  induction l with
  | nil => simp
  | cons x l ih => intro acc; have := ih (rgStep acc x); have := rgStep_len acc x; simp only [List.foldl_cons, List.length_cons]; omega

/-- How many numbers of a set are below one. -/
def below (g : List Int) (k : Int) : Nat := (g.filter fun x => decide (x < k)).length
def shiftL (l g : List Int) : List Int := (l.filter fun x => !decide (x ∈ g)).map fun x => x - below g x

theorem below_at : ∀ (g : List Int) (k : Int) (b : Nat), Asc g → b ≤ g.length → (∀ j, j < b → g.getD j 0 < k) → (b < g.length → k ≤ g.getD b 0) → below g k = b
  | [], k, b, _, hb, _, _ => by simp at hb; simp [below, hb]
  | x :: g, k, 0, hg, _, _, h2 => by
    have hx := h2 (by simp)
    simp at hx
    rw [Asc, List.pairwise_cons] at hg
    unfold below
    rw [List.length_eq_zero_iff, List.filter_eq_nil_iff]
    intro y hy
    rcases List.mem_cons.1 hy with rfl | hy
    · simp; omega
    · have := hg.1 y hy; simp; omega
  | x :: g, k, b + 1, hg, hb, h1, h2 => by
    rw [Asc, List.pairwise_cons] at hg
    have hx := h1 0 (by omega)
    simp at hx
    have ih := below_at g k b hg.2 (by simpa using hb) (fun j hj => by simpa using h1 (j + 1) (by omega)) (fun hlt => by simpa using h2 (by simpa using hlt))
    unfold below at ih ⊢
    rw [List.filter_cons, if_pos (by simpa using hx), List.length_cons, ih]

theorem asc_lt {g : List Int} (hg : Asc g) {i j : Nat} (hij : i < j) (hj : j < g.length) : g.getD i 0 < g.getD j 0 := by
  have := List.pairwise_iff_getElem.1 hg i j (by omega) hj hij
  simpa [List.getD, List.getElem?_eq_getElem hj, List.getElem?_eq_getElem (show i < g.length by omega)] using this

theorem mem_at (g : List Int) (k : Int) (b : Nat) (hg : Asc g) (hb : b ≤ g.length) (h1 : ∀ j, j < b → g.getD j 0 < k) (h2 : b < g.length → k ≤ g.getD b 0) :
    k ∈ g ↔ b < g.length ∧ g.getD b 0 = k := by
  constructor
  · intro hk
    obtain ⟨i, hi, rfl⟩ := List.mem_iff_getElem.1 hk
    have e : g[i] = g.getD i 0 := by simp [List.getD, List.getElem?_eq_getElem hi]
    rcases Nat.lt_trichotomy i b with h | h | h
    · have := h1 i h; omega
    · subst h; exact ⟨hi, e.symm⟩
    · have := asc_lt hg h hi; have := h2 (by omega); omega
  · rintro ⟨h, rfl⟩
    rw [List.getD, List.getElem?_eq_getElem h]; exact List.getElem_mem h

/-- A number's bytes. -/
def numL (n : Int) : List Int := if n < 128 then [n] else [128 + n % 128, n / 128]
def packL : Int → List (Int × Int) → List Int
  | _, [] => []
  | next, (a, b) :: rs => numL (a - next) ++ numL (b - a) ++ packL (b + 1) rs
theorem packL_snoc (a b : Int) : ∀ (rs : List (Int × Int)) (next : Int), packL next (rs ++ [(a, b)]) = packL next rs ++ (numL (a - (match rs.getLast? with | some (_, y) => y + 1 | none => next)) ++ numL (b - a))
  | [], next => by simp [packL]
  | [(x, y)], next => by simp [packL, List.append_assoc]
  | (x, y) :: r :: rs, next => by
    obtain ⟨p, hp⟩ : ∃ p, (r :: rs).getLast? = some p := by
      cases h : (r :: rs).getLast? with
      | none => simp at h
      | some p => exact ⟨p, rfl⟩
    have ih := packL_snoc a b (r :: rs) (y + 1)
    rw [hp] at ih
    rw [List.getLast?_cons_cons, hp, List.cons_append]
    show numL (x - next) ++ numL (y - x) ++ packL (y + 1) (r :: rs ++ [(a, b)]) = numL (x - next) ++ numL (y - x) ++ packL (y + 1) (r :: rs) ++ _
    rw [ih]; simp [List.append_assoc]

end Go.Proofs.Ytoldjpnkgdhpkaa
