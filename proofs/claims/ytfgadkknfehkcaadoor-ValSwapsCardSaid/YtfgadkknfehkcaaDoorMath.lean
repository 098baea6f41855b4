/- Plain facts on the calendar and on numbers: no Go in sight. Leap years, the days before a month, the last day before a year, and that a day has one date alone. -/
namespace Go.Proofs.YtfgadkknfehkcaaDoor.Cal
set_option linter.unusedVariables false

def lp (y : Int) : Int := if (y % 4 = 0 ∧ y % 100 ≠ 0) ∨ y % 400 = 0 then 1 else 0
theorem lp_01 (y : Int) : 0 ≤ lp y ∧ lp y ≤ 1 := by unfold lp; split <;> omega

/-- The days of a common year before the month m (1 to 13). -/
def db (m : Int) : Int :=
  if m ≤ 1 then 0 else if m = 2 then 31 else if m = 3 then 59 else if m = 4 then 90 else if m = 5 then 120 else if m = 6 then 151 else if m = 7 then 181
  else if m = 8 then 212 else if m = 9 then 243 else if m = 10 then 273 else if m = 11 then 304 else if m = 12 then 334 else 365
/-- The days of the year y before the month m. -/
def bf (y m : Int) : Int := db m + if 2 < m then lp y else 0
/-- The length of a month. -/
def ml (y m : Int) : Int := if m = 2 then 28 + lp y else if m = 4 ∨ m = 6 ∨ m = 9 ∨ m = 11 then 30 else 31
/-- The number of the last day before the year y. -/
def ys (y : Int) : Int := 365 * (y - 1) + (y - 1) / 4 - (y - 1) / 100 + (y - 1) / 400

theorem db_bd (m : Int) : 0 ≤ db m ∧ db m ≤ 365 := by
  unfold db; repeat' split
  all_goals omega
theorem bf_bd (y m : Int) : 0 ≤ bf y m ∧ bf y m ≤ 366 := by
  have := db_bd m; have := lp_01 y; unfold bf; split <;> omega
theorem ml_bd (y m : Int) : 28 ≤ ml y m ∧ ml y m ≤ 31 := by
  have := lp_01 y; unfold ml; repeat' split
  all_goals omega
theorem bf_one (y : Int) : bf y 1 = 0 := by simp [bf, db]
theorem bf_succ (y m : Int) (h1 : 1 ≤ m) (h2 : m ≤ 12) : bf y (m + 1) = bf y m + ml y m := by
  have h : m = 1 ∨ m = 2 ∨ m = 3 ∨ m = 4 ∨ m = 5 ∨ m = 6 ∨ m = 7 ∨ m = 8 ∨ m = 9 ∨ m = 10 ∨ m = 11 ∨ m = 12 := by omega
  rcases h with rfl | rfl | rfl | rfl | rfl | rfl | rfl | rfl | rfl | rfl | rfl | rfl <;> simp [bf, db, ml] <;> omega
theorem bf_13 (y : Int) : bf y 13 = 365 + lp y := by simp [bf, db]
theorem ys_succ (y : Int) (h : 1 ≤ y) : ys (y + 1) = ys y + 365 + lp y := by
  unfold ys lp; split <;> omega
theorem ys_bd (y : Int) (h1 : 1 ≤ y) (h2 : y ≤ 10000) : 0 ≤ ys y ∧ ys y ≤ 3652059 := by unfold ys; omega
theorem ys_mono (a b : Int) (h1 : 1 ≤ a) (h : a ≤ b) : ys a ≤ ys b := by unfold ys; omega
theorem ys_max : ys 10000 = 3652059 := by decide
theorem ys_guess (d : Int) (h0 : 1 ≤ d) (h1 : d ≤ 3652059) : ys (d / 366 + 1) < d := by unfold ys; omega

theorem bf_mono (y a b : Int) (h1 : 1 ≤ a) (h : a ≤ b) (h2 : b ≤ 13) : bf y a ≤ bf y b := by
  have k : ∀ n : Nat, a + n ≤ 13 → bf y a ≤ bf y (a + n) := by
    intro n; induction n with
    | zero => intro _; simp
    | succ n ih =>
      intro hn
      have hs := bf_succ y (a + n) (by omega) (by omega)
      have := ml_bd y (a + n)
      have := ih (by omega)
      have e : a + ((n + 1 : Nat) : Int) = a + n + 1 := by omega
      rw [e]; omega
  have := k (b - a).toNat (by omega)
  have e : a + ((b - a).toNat : Int) = b := by omega
  rwa [e] at this

/-- A date. -/
def Ok (y m d : Int) : Prop := 1 ≤ y ∧ y ≤ 9999 ∧ 1 ≤ m ∧ m ≤ 12 ∧ 1 ≤ d ∧ d ≤ ml y m
def num (y m d : Int) : Int := ys y + bf y m + d

theorem num_bd {y m d : Int} (h : Ok y m d) : 1 ≤ num y m d ∧ num y m d ≤ 3652059 := by
  obtain ⟨a, b, c, e, f, g⟩ := h
  have h1 := ys_bd y a (by omega)
  have h2 := bf_bd y m
  have h3 := bf_succ y m c e
  have h4 := bf_mono y (m + 1) 13 (by omega) (by omega) (by omega)
  have h5 := bf_13 y
  have h6 := ys_succ y a
  have h7 := ys_bd (y + 1) (by omega) (by omega)
  unfold num; omega

/-- The year of a day is one alone. -/
theorem year_one {a b n : Int} (ha : 1 ≤ a) (hb : 1 ≤ b) (h1 : ys a < n) (h2 : n ≤ ys (a + 1)) (h3 : ys b < n) (h4 : n ≤ ys (b + 1)) : a = b := by
  rcases Int.lt_trichotomy a b with h | h | h
  · have := ys_mono (a + 1) b (by omega) (by omega); omega
  · exact h
  · have := ys_mono (b + 1) a (by omega) (by omega); omega
/-- The month of a day of a year is one alone. -/
theorem month_one {y a b n : Int} (ha : 1 ≤ a) (ha2 : a ≤ 12) (hb : 1 ≤ b) (hb2 : b ≤ 12) (h1 : bf y a < n) (h2 : n ≤ bf y (a + 1)) (h3 : bf y b < n) (h4 : n ≤ bf y (b + 1)) : a = b := by
  rcases Int.lt_trichotomy a b with h | h | h
  · have := bf_mono y (a + 1) b (by omega) (by omega) (by omega); omega
  · exact h
  · have := bf_mono y (b + 1) a (by omega) (by omega) (by omega); omega

/-- What a split is: the one date of a day. -/
theorem split_one {n y m y' m' d' : Int} (hy : 1 ≤ y) (h1 : ys y < n) (h2 : n ≤ ys (y + 1)) (hm : 1 ≤ m) (hm2 : m ≤ 12) (h3 : bf y m < n - ys y) (h4 : n - ys y ≤ bf y (m + 1))
    (ok : Ok y' m' d') (e : num y' m' d' = n) : y' = y ∧ m' = m ∧ d' = n - ys y - bf y m := by
  obtain ⟨a, b, c, d, f, g⟩ := ok
  have q1 := bf_succ y' m' c d
  have q2 := bf_mono y' (m' + 1) 13 (by omega) (by omega) (by omega)
  have q3 := bf_13 y'
  have q4 := ys_succ y' a
  have q5 := bf_bd y' m'
  unfold num at e
  obtain rfl : y' = y := year_one (n := n) a hy (by omega) (by omega) h1 h2
  obtain rfl : m' = m := month_one (y := y') (n := n - ys y') c d hm hm2 (by omega) (by omega) h3 h4
  exact ⟨rfl, rfl, by omega⟩
theorem ok_of_split {n y m : Int} (hy : 1 ≤ y) (hy2 : y ≤ 9999) (hm : 1 ≤ m) (hm2 : m ≤ 12) (h3 : bf y m < n - ys y) (h4 : n - ys y ≤ bf y (m + 1)) :
    Ok y m (n - ys y - bf y m) ∧ num y m (n - ys y - bf y m) = n := by
  have q1 := bf_succ y m hm hm2
  refine ⟨⟨hy, hy2, hm, hm2, by omega, by omega⟩, by unfold num; omega⟩
theorem num_facts {y m d : Int} (h : Ok y m d) : ys y < num y m d ∧ num y m d ≤ ys (y + 1) ∧ bf y m < num y m d - ys y ∧ num y m d - ys y ≤ bf y (m + 1) ∧ num y m d - ys y - bf y m = d := by
  obtain ⟨a, b, c, e, f, g⟩ := h
  have h2 := bf_bd y m
  have h3 := bf_succ y m c e
  have h4 := bf_mono y (m + 1) 13 (by omega) (by omega) (by omega)
  have h5 := bf_13 y
  have h6 := ys_succ y a
  unfold num; omega
/-- Each day has a date. -/
theorem num_all (n : Int) (h1 : 1 ≤ n) (h2 : n ≤ 3652059) : ∃ y m d, Ok y m d ∧ num y m d = n := by
  have ky : ∀ k : Nat, 1 ≤ k → k ≤ 9999 → n ≤ ys (k + 1) → ∃ y : Int, 1 ≤ y ∧ y ≤ k ∧ ys y < n ∧ n ≤ ys (y + 1) := by
    intro k; induction k with
    | zero => intro h; omega
    | succ k ih =>
      intro _ hk hn
      by_cases hc : n ≤ ys ((k + 1 : Nat) : Int)
      · rcases Nat.eq_zero_or_pos k with rfl | hp
        · have : ys ((0 + 1 : Nat) : Int) = 0 := by decide
          omega
        · obtain ⟨y, q1, q2, q3, q4⟩ := ih hp (by omega) (by simpa using hc)
          exact ⟨y, q1, by omega, q3, q4⟩
      · exact ⟨((k + 1 : Nat) : Int), by omega, by omega, by omega, hn⟩
  obtain ⟨y, y1, y2, y3, y4⟩ := ky 9999 (by omega) (by omega) (by have := ys_max; simpa [this] using h2)
  have y5 := ys_succ y y1
  have km : ∀ k : Nat, 1 ≤ k → k ≤ 12 → n - ys y ≤ bf y (k + 1) → ∃ m : Int, 1 ≤ m ∧ m ≤ k ∧ bf y m < n - ys y ∧ n - ys y ≤ bf y (m + 1) := by
    intro k; induction k with
    | zero => intro h; omega
    | succ k ih =>
      intro _ hk hn
      by_cases hc : n - ys y ≤ bf y ((k + 1 : Nat) : Int)
      · rcases Nat.eq_zero_or_pos k with rfl | hp
        · have : bf y ((0 + 1 : Nat) : Int) = 0 := bf_one y
          omega
        · obtain ⟨m, q1, q2, q3, q4⟩ := ih hp (by omega) (by simpa using hc)
          exact ⟨m, q1, by omega, q3, q4⟩
      · exact ⟨((k + 1 : Nat) : Int), by omega, by omega, by omega, hn⟩
  obtain ⟨m, m1, m2, m3, m4⟩ := km 12 (by omega) (by omega) (by have := bf_13 y; show n - ys y ≤ bf y 13; omega)
  exact ⟨y, m, _, ok_of_split y1 (by simpa using y2) m1 (by simpa using m2) m3 m4⟩
theorem num_inj {y m d y' m' d' : Int} (h : Ok y m d) (h' : Ok y' m' d') (e : num y m d = num y' m' d') : y = y' ∧ m = m' ∧ d = d' := by
  obtain ⟨a, b, c, f, g⟩ := num_facts h'
  have q := h'
  obtain ⟨a1, a2, a3, a4, a5, a6⟩ := h'
  obtain ⟨p1, p2, p3⟩ := split_one a1 a b a3 a4 c f h e
  exact ⟨p1, p2, by omega⟩
end Go.Proofs.YtfgadkknfehkcaaDoor.Cal
