/- The walks of split and Split of the program. -/
import Derived.Test.YtfgadkknfehkcaaDoorDays
namespace Go.Proofs.YtfgadkknfehkcaaDoor
open Go.RowKit
set_option linter.unusedVariables false

set_option maxHeartbeats 1000000 in
theorem split_of (y m d n : Int) (w : World) (h : Cal.Ok y m d) (hn : Cal.num y m d = n) (ht : Tab w) :
    Calls Tryd.prog 91 #[.int .i64 n] w fun e w' => e = .returned (.tuple #[.int .i64 y, .int .i64 m, .int .i64 d]) ∧ w = w' := by
  have hb := Cal.num_bd h
  obtain ⟨f1, f2, f3, f4, f5⟩ := Cal.num_facts h
  rw [hn] at hb f1 f2 f3 f4 f5
  clear hn
  have F5 := Lib.hid f5; clear f5
  have hg := Cal.ys_guess n (by omega) (by omega)
  have hgy : n / 366 + 1 ≤ y := by
    rcases Int.lt_or_le y (n / 366 + 1) with q | q
    · have := Cal.ys_mono (y + 1) (n / 366 + 1) (by have := h.1; omega) (by omega); omega
    · exact q
  obtain ⟨a, b, c, e, f, g⟩ := h
  have n0 : (n == 0) = false := by simp; omega
  have yb := Cal.ys_bd y a (by omega)
  go_enter Tryd.func91, Tryd.ntmps91
  go_wp2_with fail
  go_loop [5] (fun t => ∃ k : Int, 1 ≤ k ∧ k ≤ y ∧ t = .int .i64 k) (fun t => (y - intOf t).toNat)
  case atStart => exact ⟨_, by omega, hgy, rfl⟩
  case round =>
    obtain ⟨k, k1, k2, rfl⟩ := hrel
    clear hg hgy
    by_cases hk : k < y
    · have s1 := Cal.ys_mono (k + 1) y (by omega) (by omega)
      have s2 := Cal.ys_bd (k + 1) (by omega) (by omega)
      have t1 : decide (k < 9999) = true := by simp; omega
      have t2 : decide (Cal.ys (k + 1) < n) = true := by simp; omega
      go_wp2_with fail
      refine (yearStart_any _ _ (by omega) (by omega)).mono ?_
      rintro e w' ⟨rfl, rfl⟩
      go_wp2_with fail
      go_round
      case rel => exact ⟨k + 1, by omega, by omega, rfl⟩
      case measure => simp [intOf]; omega
    · have hky : k = y := by omega
      subst hky
      clear hk k1 k2
      have hcase : decide (k < 9999) = false ∨ (decide (k < 9999) = true ∧ decide (Cal.ys (k + 1) < n) = false) := by
        by_cases h9 : k < 9999
        · right; simp; omega
        · left; simp; omega
      rcases hcase with t1 | ⟨t1, t2⟩
      all_goals
        go_wp2_with (go_at_call 87; refine (yearStart_any _ _ (by omega) (by omega)).mono ?_; rintro e w' ⟨rfl, rfl⟩)
        go_loop [6] (fun t => ∃ j : Int, 1 ≤ j ∧ j ≤ m ∧ t = .int .i64 j) (fun t => (m - intOf t).toNat)
        case atStart => exact ⟨1, by omega, by omega, rfl⟩
        case round =>
          obtain ⟨j, j1, j2, rfl⟩ := hrel
          have u1 := Cal.bf_bd k (j + 1)
          by_cases hj : j < m
          · have s1 := Cal.bf_mono k (j + 1) m (by omega) (by omega) (by omega)
            have t3 : decide (Cal.bf k (j + 1) < n - Cal.ys k) = true := by simp; omega
            go_wp2_with fail
            refine (before_any _ _ _ (by omega) (by omega) (by omega) (by omega) ht).mono ?_
            rintro e w' ⟨rfl, rfl⟩
            go_wp2_with fail
            go_round
            case rel => exact ⟨j + 1, by omega, by omega, rfl⟩
            case measure => simp [intOf]; omega
          · have hjm : j = m := by omega
            subst hjm
            have t3 : decide (Cal.bf k (j + 1) < n - Cal.ys k) = false := by simp; omega
            have u2 := Cal.bf_bd k j
            go_wp2_with fail
            refine (before_any _ _ _ (by omega) (by omega) (by omega) (by omega) ht).mono ?_
            rintro e w' ⟨rfl, rfl⟩
            go_wp2_with fail
            refine (before_any _ _ _ (by omega) (by omega) (by omega) (by omega) ht).mono ?_
            rintro e w' ⟨rfl, rfl⟩
            go_wp2_with fail
            go_ret3
            exact ⟨by rw [F5.out]; rfl, rfl⟩

set_option maxHeartbeats 400000 in
theorem split_zero (w : World) :
    Calls Tryd.prog 91 #[.int .i64 0] w fun e w' => e = .returned (.tuple #[.int .i64 0, .int .i64 0, .int .i64 0]) ∧ w = w' := by
  go_enter Tryd.func91, Tryd.ntmps91
  go_wp2
  go_ret3
  exact ⟨rfl, rfl⟩

set_option maxHeartbeats 400000 in
theorem Split_of (y m d n : Int) (w : World) (h : Cal.Ok y m d) (hn : Cal.num y m d = n) (ht : Tab w) :
    Calls Tryd.prog 36 #[.int .i64 n] w fun e w' => e = .returned (.tuple #[.int .i64 y, .int .i64 m, .int .i64 d, .int .i64 0]) ∧ w = w' := by
  have hb := Cal.num_bd h
  rw [hn] at hb
  have hv : decide (0 ≤ n ∧ n ≤ 3652059) = true := by simp; omega
  have HN := Lib.hid hn; clear hn
  go_enter Tryd.func36, Tryd.ntmps36
  go_wp2_with fail
  refine (isDay_any _ _).mono ?_
  rintro e w' ⟨rfl, rfl⟩
  rw [hv]; clear hv
  go_wp2_with fail
  refine (split_of y m d n _ h HN.out ht).mono ?_
  rintro e w' ⟨rfl, rfl⟩
  go_wp2_with fail
  refine bodyPost_ret (v := .tuple #[.int .i64 y, .int .i64 m, .int .i64 d, .int .i64 0]) (by simp [results, Tryd.results36, go_sem]) rfl ⟨rfl, rfl⟩
set_option maxHeartbeats 400000 in
theorem Split_zero (w : World) :
    Calls Tryd.prog 36 #[.int .i64 0] w fun e w' => e = .returned (.tuple #[.int .i64 0, .int .i64 0, .int .i64 0, .int .i64 0]) ∧ w = w' := by
  have hv : decide ((0 : Int) ≤ 0 ∧ (0 : Int) ≤ 3652059) = true := by decide
  go_enter Tryd.func36, Tryd.ntmps36
  go_wp2_with fail
  refine (isDay_any _ _).mono ?_
  rintro e w' ⟨rfl, rfl⟩
  rw [hv]; clear hv
  go_wp2_with fail
  refine (split_zero _).mono ?_
  rintro e w' ⟨rfl, rfl⟩
  go_wp2_with fail
  refine bodyPost_ret (v := .tuple #[.int .i64 0, .int .i64 0, .int .i64 0, .int .i64 0]) (by simp [results, Tryd.results36, go_sem]) rfl ⟨rfl, rfl⟩
set_option maxHeartbeats 400000 in
theorem Split_no (n : Int) (w : World) (h : ¬ (0 ≤ n ∧ n ≤ 3652059)) :
    Calls Tryd.prog 36 #[.int .i64 n] w fun e w' => e = .returned (.tuple #[.int .i64 0, .int .i64 0, .int .i64 0, .int .i64 1]) ∧ w = w' := by
  have hv : decide (0 ≤ n ∧ n ≤ 3652059) = false := by simp; omega
  clear h
  go_enter Tryd.func36, Tryd.ntmps36
  go_wp2_with fail
  refine (isDay_any _ _).mono ?_
  rintro e w' ⟨rfl, rfl⟩
  rw [hv]; clear hv
  go_wp2_with fail
  refine bodyPost_ret (v := .tuple #[.int .i64 0, .int .i64 0, .int .i64 0, .int .i64 1]) (by simp [results, Tryd.results36, go_sem]) rfl ⟨rfl, rfl⟩
end Go.Proofs.YtfgadkknfehkcaaDoor
