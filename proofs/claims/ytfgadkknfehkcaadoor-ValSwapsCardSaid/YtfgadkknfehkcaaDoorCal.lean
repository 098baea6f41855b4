/- The walks of the small functions on dates: leap years, the days before a month, the length of a month, the last day before a year. -/
import Derived.Test.YtfgadkknfehkcaaDoorProg
import Derived.Test.YtfgadkknfehkcaaDoorMath
import Derived.WalkKit
import Derived.WalkSpells
import Derived.WalkLawsBesides
import Derived.Lib.Hide
import Derived.Lib.Strings
namespace Go.Proofs.YtfgadkknfehkcaaDoor
open Go.RowKit
set_option linter.unusedVariables false

def leapB (y : Int) : Bool := decide ((y % 4 = 0 ∧ y % 100 ≠ 0) ∨ y % 400 = 0)
theorem lp_leap (y : Int) : Cal.lp y = if leapB y = true then 1 else 0 := by
  simp [Cal.lp, leapB]

set_option maxHeartbeats 400000 in
theorem isLeap_any (y : Int) (w : World) (h0 : 0 ≤ y) (h1 : y ≤ 10000) :
    Calls Tryd.prog 128 #[.int .i64 y] w fun e w' => e = .returned (.bool (leapB y)) ∧ w = w' := by
  by_cases a : y % 4 = 0
  · by_cases b : y % 100 = 0
    · by_cases c : y % 400 = 0
      · have hl : leapB y = true := by simp [leapB]; omega
        rw [hl]; clear hl
        have a' : (y % 4 == 0) = true := by simp; omega
        have b' : (y % 100 != 0) = false := by simp; omega
        have c' : (y % 400 == 0) = true := by simp; omega
        clear a b c
        go_enter Tryd.func128, Tryd.ntmps128
        go_wp2
        go_ret
        exact ⟨rfl, rfl⟩
      · have hl : leapB y = false := by simp [leapB]; omega
        rw [hl]; clear hl
        have a' : (y % 4 == 0) = true := by simp; omega
        have b' : (y % 100 != 0) = false := by simp; omega
        have c' : (y % 400 == 0) = false := by simp; omega
        clear a b c
        go_enter Tryd.func128, Tryd.ntmps128
        go_wp2
        go_ret
        exact ⟨rfl, rfl⟩
    · have hl : leapB y = true := by simp [leapB]; omega
      rw [hl]; clear hl
      have a' : (y % 4 == 0) = true := by simp; omega
      have b' : (y % 100 != 0) = true := by simp; omega
      clear a b
      go_enter Tryd.func128, Tryd.ntmps128
      go_wp2
      go_ret
      exact ⟨rfl, rfl⟩
  · have hl : leapB y = false := by simp [leapB]; omega
    rw [hl]; clear hl
    have a' : (y % 4 == 0) = false := by simp; omega
    have c' : (y % 400 == 0) = false := by simp; omega
    clear a
    go_enter Tryd.func128, Tryd.ntmps128
    go_wp2
    go_ret
    exact ⟨rfl, rfl⟩

set_option maxHeartbeats 400000 in
theorem leap_any (y : Int) (w : World) (h0 : 0 ≤ y) (h1 : y ≤ 10000) :
    Calls Tryd.prog 129 #[.int .i64 y] w fun e w' => e = .returned (.bool (leapB y)) ∧ w = w' := by
  by_cases a : y % 4 = 0
  · by_cases b : y % 100 = 0
    · by_cases c : y % 400 = 0
      · have hl : leapB y = true := by simp [leapB]; omega
        rw [hl]; clear hl
        have a' : (y % 4 == 0) = true := by simp; omega
        have b' : (y % 100 != 0) = false := by simp; omega
        have c' : (y % 400 == 0) = true := by simp; omega
        clear a b c
        go_enter Tryd.func129, Tryd.ntmps129
        go_wp2
        go_ret
        exact ⟨rfl, rfl⟩
      · have hl : leapB y = false := by simp [leapB]; omega
        rw [hl]; clear hl
        have a' : (y % 4 == 0) = true := by simp; omega
        have b' : (y % 100 != 0) = false := by simp; omega
        have c' : (y % 400 == 0) = false := by simp; omega
        clear a b c
        go_enter Tryd.func129, Tryd.ntmps129
        go_wp2
        go_ret
        exact ⟨rfl, rfl⟩
    · have hl : leapB y = true := by simp [leapB]; omega
      rw [hl]; clear hl
      have a' : (y % 4 == 0) = true := by simp; omega
      have b' : (y % 100 != 0) = true := by simp; omega
      clear a b
      go_enter Tryd.func129, Tryd.ntmps129
      go_wp2
      go_ret
      exact ⟨rfl, rfl⟩
  · have hl : leapB y = false := by simp [leapB]; omega
    rw [hl]; clear hl
    have a' : (y % 4 == 0) = false := by simp; omega
    have c' : (y % 400 == 0) = false := by simp; omega
    clear a
    go_enter Tryd.func129, Tryd.ntmps129
    go_wp2
    go_ret
    exact ⟨rfl, rfl⟩

/-- The table of days before the months lies in its variable. -/
def Tab (w : World) : Prop := ∀ m : Int, 1 ≤ m → m ≤ 13 → w.cell? ⟨0, m.toNat - 1, none⟩ = some (.int .i64 (Cal.db m))
theorem Tab.below {w w' : World} {B : Nat} (h : Tab w) (hb : Below B w w') (hB : 0 < B) : Tab w' := fun m h1 h2 => by
  rw [hb.cell (p := ⟨0, m.toNat - 1, none⟩) hB]; exact h m h1 h2

set_option maxHeartbeats 400000 in
theorem before_any (y m : Int) (w : World) (h0 : 0 ≤ y) (h1 : y ≤ 10000) (h2 : 1 ≤ m) (h3 : m ≤ 13) (ht : Tab w) :
    Calls Tryd.prog 88 #[.int .i64 y, .int .i64 m] w fun e w' => e = .returned (.int .i64 (Cal.bf y m)) ∧ w = w' := by
  have hc := ht m h2 h3
  have hd := Cal.db_bd m
  clear ht
  by_cases hm : 2 < m
  · by_cases hl : leapB y = true
    · have hv : Cal.bf y m = Cal.db m + 1 := by simp [Cal.bf, lp_leap, hl, hm]
      rw [hv]; clear hv
      generalize Cal.db m = t at *
      go_enter Tryd.func88, Tryd.ntmps88
      go_wp2_with (go_at_call 128; refine (isLeap_any _ _ (by omega) (by omega)).mono ?_; rintro e w' ⟨rfl, rfl⟩)
      go_ret
      exact ⟨rfl, rfl⟩
    · have hl' : leapB y = false := by simpa using hl
      have hv : Cal.bf y m = Cal.db m := by simp [Cal.bf, lp_leap, hl']
      rw [hv]; clear hv hl
      generalize Cal.db m = t at *
      go_enter Tryd.func88, Tryd.ntmps88
      go_wp2_with (go_at_call 128; refine (isLeap_any _ _ (by omega) (by omega)).mono ?_; rintro e w' ⟨rfl, rfl⟩)
      go_ret
      exact ⟨rfl, rfl⟩
  · have hv : Cal.bf y m = Cal.db m := by simp [Cal.bf, hm]
    rw [hv]; clear hv
    generalize Cal.db m = t at *
    go_enter Tryd.func88, Tryd.ntmps88
    go_wp2
    go_ret
    exact ⟨rfl, rfl⟩

set_option maxHeartbeats 400000 in
theorem monthLength_any (y m : Int) (w : World) (h0 : 0 ≤ y) (h1 : y ≤ 10000) (h2 : 1 ≤ m) (h3 : m ≤ 12) (ht : Tab w) :
    Calls Tryd.prog 86 #[.int .i64 y, .int .i64 m] w fun e w' => e = .returned (.int .i64 (Cal.ml y m)) ∧ w = w' := by
  have hs := Cal.bf_succ y m h2 h3
  have b1 := Cal.bf_bd y m
  have b2 := Cal.bf_bd y (m + 1)
  have hv : Cal.ml y m = Cal.bf y (m + 1) - Cal.bf y m := by omega
  rw [hv]; clear hv hs
  go_enter Tryd.func86, Tryd.ntmps86
  go_wp2_with fail
  refine (before_any _ _ _ (by omega) (by omega) (by omega) (by omega) ht).mono ?_
  rintro e w' ⟨rfl, rfl⟩
  go_wp2_with fail
  refine (before_any _ _ _ (by omega) (by omega) (by omega) (by omega) ht).mono ?_
  rintro e w' ⟨rfl, rfl⟩
  go_wp2_with fail
  go_ret
  exact ⟨rfl, rfl⟩

set_option maxHeartbeats 400000 in
theorem yearStart_any (y : Int) (w : World) (h0 : 1 ≤ y) (h1 : y ≤ 10000) :
    Calls Tryd.prog 87 #[.int .i64 y] w fun e w' => e = .returned (.int .i64 (Cal.ys y)) ∧ w = w' := by
  have hv : Cal.ys y = 365 * (y - 1) + (y - 1) / 4 - (y - 1) / 100 + (y - 1) / 400 := rfl
  rw [hv]; clear hv
  go_enter Tryd.func87, Tryd.ntmps87
  go_wp2
  go_ret
  exact ⟨rfl, rfl⟩

set_option maxHeartbeats 400000 in
theorem length_any (y m : Int) (w : World) (h0 : 0 ≤ y) (h1 : y ≤ 10000) :
    Calls Tryd.prog 89 #[.int .i64 y, .int .i64 m] w fun e w' => e = .returned (.int .i64 (Cal.ml y m)) ∧ w = w' := by
  by_cases hm : m = 2
  · subst hm
    by_cases hl : leapB y = true
    · have hv : Cal.ml y 2 = 29 := by simp [Cal.ml, lp_leap, hl]
      rw [hv]; clear hv
      go_enter Tryd.func89, Tryd.ntmps89
      go_wp2_with (go_at_call 129; refine (leap_any _ _ (by omega) (by omega)).mono ?_; rintro e w' ⟨rfl, rfl⟩)
      go_ret
      exact ⟨rfl, rfl⟩
    · have hl' : leapB y = false := by simpa using hl
      have hv : Cal.ml y 2 = 28 := by simp [Cal.ml, lp_leap, hl']
      rw [hv]; clear hv hl
      go_enter Tryd.func89, Tryd.ntmps89
      go_wp2_with (go_at_call 129; refine (leap_any _ _ (by omega) (by omega)).mono ?_; rintro e w' ⟨rfl, rfl⟩)
      go_ret
      exact ⟨rfl, rfl⟩
  · have k2 : (m == 2) = false := by simp; omega
    by_cases h4 : m = 4
    · subst h4
      go_enter Tryd.func89, Tryd.ntmps89
      go_wp2
      go_ret
      exact ⟨rfl, rfl⟩
    · have k4 : (m == 4) = false := by simp; omega
      by_cases h6 : m = 6
      · subst h6
        go_enter Tryd.func89, Tryd.ntmps89
        go_wp2
        go_ret
        exact ⟨rfl, rfl⟩
      · have k6 : (m == 6) = false := by simp; omega
        by_cases h9 : m = 9
        · subst h9
          go_enter Tryd.func89, Tryd.ntmps89
          go_wp2
          go_ret
          exact ⟨rfl, rfl⟩
        · have k9 : (m == 9) = false := by simp; omega
          by_cases h11 : m = 11
          · subst h11
            go_enter Tryd.func89, Tryd.ntmps89
            go_wp2
            go_ret
            exact ⟨rfl, rfl⟩
          · have k11 : (m == 11) = false := by simp; omega
            have hv : Cal.ml y m = 31 := by unfold Cal.ml; rw [if_neg hm, if_neg (by omega)]
            rw [hv]; clear hv hm h4 h6 h9 h11
            go_enter Tryd.func89, Tryd.ntmps89
            go_wp2
            go_ret
            exact ⟨rfl, rfl⟩
end Go.Proofs.YtfgadkknfehkcaaDoor
