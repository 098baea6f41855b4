/- The walks of Days and Split of the program, and of Days of the reference. -/
import Derived.Test.YtfgadkknfehkcaaDoorCal
namespace Go.Proofs.YtfgadkknfehkcaaDoor
open Go.RowKit
set_option linter.unusedVariables false

set_option maxHeartbeats 400000 in
theorem days_yes (y m d : Int) (w : World) (h : Cal.Ok y m d) (ht : Tab w) :
    Calls Tryd.prog 34 #[.int .i64 y, .int .i64 m, .int .i64 d] w fun e w' => e = .returned (.tuple #[.int .i64 (Cal.num y m d), .int .i64 0]) ∧ w = w' := by
  have hn := Cal.num_bd h
  obtain ⟨a, b, c, e, f, g⟩ := h
  have hv : Cal.num y m d = Cal.ys y + Cal.bf y m + d := rfl
  rw [hv] at hn ⊢; clear hv
  have b1 := Cal.ys_bd y a (by omega)
  have b2 := Cal.bf_bd y m
  have b3 := Cal.ml_bd y m
  go_enter Tryd.func34, Tryd.ntmps34
  go_wp2_with fail
  refine (monthLength_any _ _ _ (by omega) (by omega) (by omega) (by omega) ht).mono ?_
  rintro e w' ⟨rfl, rfl⟩
  go_wp2_with fail
  refine (yearStart_any _ _ (by omega) (by omega)).mono ?_
  rintro e w' ⟨rfl, rfl⟩
  go_wp2_with fail
  refine (before_any _ _ _ (by omega) (by omega) (by omega) (by omega) ht).mono ?_
  rintro e w' ⟨rfl, rfl⟩
  go_wp2_with fail
  go_ret2
  exact ⟨rfl, rfl⟩

set_option maxHeartbeats 400000 in
theorem days_no (y m d : Int) (w : World) (h : ¬ Cal.Ok y m d) (ht : Tab w) :
    Calls Tryd.prog 34 #[.int .i64 y, .int .i64 m, .int .i64 d] w fun e w' => e = .returned (.tuple #[.int .i64 0, .int .i64 1]) ∧ w = w' := by
  by_cases a : y < 1
  · clear h
    go_enter Tryd.func34, Tryd.ntmps34
    go_wp2
    go_ret2
    exact ⟨rfl, rfl⟩
  by_cases b : 9999 < y
  · clear h
    go_enter Tryd.func34, Tryd.ntmps34
    go_wp2
    go_ret2
    exact ⟨rfl, rfl⟩
  by_cases c : m < 1
  · clear h
    go_enter Tryd.func34, Tryd.ntmps34
    go_wp2
    go_ret2
    exact ⟨rfl, rfl⟩
  by_cases e : 12 < m
  · clear h
    go_enter Tryd.func34, Tryd.ntmps34
    go_wp2
    go_ret2
    exact ⟨rfl, rfl⟩
  by_cases f : d < 1
  · clear h
    go_enter Tryd.func34, Tryd.ntmps34
    go_wp2
    go_ret2
    exact ⟨rfl, rfl⟩
  have g : Cal.ml y m < d := by unfold Cal.Ok at h; omega
  clear h
  go_enter Tryd.func34, Tryd.ntmps34
  go_wp2_with fail
  refine (monthLength_any _ _ _ (by omega) (by omega) (by omega) (by omega) ht).mono ?_
  rintro e w' ⟨rfl, rfl⟩
  go_wp2_with fail
  go_ret2
  exact ⟨rfl, rfl⟩

set_option maxHeartbeats 400000 in
theorem isDay_any (n : Int) (w : World) :
    Calls Tryd.prog 90 #[.int .i64 n] w fun e w' => e = .returned (.bool (decide (0 ≤ n ∧ n ≤ 3652059))) ∧ w = w' := by
  by_cases a : 0 ≤ n
  · by_cases b : n ≤ 3652059
    · have hv : decide (0 ≤ n ∧ n ≤ 3652059) = true := by simp; omega
      rw [hv]; clear hv
      go_enter Tryd.func90, Tryd.ntmps90
      go_wp2
      go_ret
      exact ⟨rfl, rfl⟩
    · have hv : decide (0 ≤ n ∧ n ≤ 3652059) = false := by simp; omega
      rw [hv]; clear hv
      go_enter Tryd.func90, Tryd.ntmps90
      go_wp2
      go_ret
      exact ⟨rfl, rfl⟩
  · have hv : decide (0 ≤ n ∧ n ≤ 3652059) = false := by simp; omega
    rw [hv]; clear hv
    go_enter Tryd.func90, Tryd.ntmps90
    go_wp2
    go_ret
    exact ⟨rfl, rfl⟩

set_option maxHeartbeats 400000 in
theorem refDays_yes (y m d : Int) (w : World) (h : Cal.Ok y m d) :
    Calls Tryd.prog 35 #[.int .i64 y, .int .i64 m, .int .i64 d] w fun e w' => e = .returned (.tuple #[.int .i64 (Cal.num y m d), .int .i64 0]) ∧ w = w' := by
  obtain ⟨a, b, c, e, f, g⟩ := h
  have b1 := Cal.ys_bd y a (by omega)
  have b2 := Cal.bf_bd y m
  have b3 := Cal.ml_bd y m
  have t1 : decide (y < 1) = false := by simp; omega
  have t2 : decide (9999 < y) = false := by simp; omega
  have t3 : decide (m < 1) = false := by simp; omega
  have t4 : decide (12 < m) = false := by simp; omega
  have t5 : decide (d < 1) = false := by simp; omega
  have t6 : decide (Cal.ml y m < d) = false := by simp; omega
  go_enter Tryd.func35, Tryd.ntmps35
  go_wp2_with fail
  refine (length_any _ _ _ (by omega) (by omega)).mono ?_
  rintro e w' ⟨rfl, rfl⟩
  go_wp2_with fail
  go_loop [8, 9] (fun n k => ∃ j : Int, 1 ≤ j ∧ j ≤ m ∧ k = .int .i64 j ∧ n = .int .i64 (d + Cal.bf y j)) (fun _ k => (m - intOf k).toNat)
  case atStart => exact ⟨1, by omega, by omega, rfl, by rw [Cal.bf_one]; simp⟩
  case round =>
    obtain ⟨j, h1, h2, rfl, rfl⟩ := hrel
    have c1 := Cal.bf_bd y j
    have c2 := Cal.ml_bd y j
    by_cases hj : j < m
    · have c3 : d + Cal.bf y j + Cal.ml y j = d + Cal.bf y (j + 1) := by rw [Cal.bf_succ y j h1 (by omega)]; omega
      have C3 := Lib.hid c3; clear c3
      go_wp2_with fail
      refine (length_any _ _ _ (by omega) (by omega)).mono ?_
      rintro e w' ⟨rfl, rfl⟩
      go_wp2_with fail
      go_round
      case rel => exact ⟨j + 1, by omega, by omega, rfl, by rw [C3.out]⟩
      case measure => simp [intOf]; omega
    · have hv : d + Cal.bf y j + 365 * (y - 1) + (y - 1) / 4 - (y - 1) / 100 + (y - 1) / 400 = Cal.num y m d := by
        have e1 : j = m := by omega
        rw [e1]; unfold Cal.num Cal.ys; omega
      have HV := Lib.hid hv; clear hv
      have tj : decide (j < m) = false := by simp; omega
      clear hj
      go_wp2
      go_ret2
      exact ⟨by rw [HV.out]; rfl, rfl⟩

set_option maxHeartbeats 400000 in
theorem refDays_no (y m d : Int) (w : World) (h : ¬ Cal.Ok y m d) :
    Calls Tryd.prog 35 #[.int .i64 y, .int .i64 m, .int .i64 d] w fun e w' => e = .returned (.tuple #[.int .i64 0, .int .i64 1]) ∧ w = w' := by
  by_cases a : y < 1
  · clear h
    go_enter Tryd.func35, Tryd.ntmps35
    go_wp2
    go_ret2
    exact ⟨rfl, rfl⟩
  by_cases b : 9999 < y
  · clear h
    go_enter Tryd.func35, Tryd.ntmps35
    go_wp2
    go_ret2
    exact ⟨rfl, rfl⟩
  by_cases c : m < 1
  · clear h
    go_enter Tryd.func35, Tryd.ntmps35
    go_wp2
    go_ret2
    exact ⟨rfl, rfl⟩
  by_cases e : 12 < m
  · clear h
    go_enter Tryd.func35, Tryd.ntmps35
    go_wp2
    go_ret2
    exact ⟨rfl, rfl⟩
  by_cases f : d < 1
  · clear h
    go_enter Tryd.func35, Tryd.ntmps35
    go_wp2
    go_ret2
    exact ⟨rfl, rfl⟩
  have g : Cal.ml y m < d := by unfold Cal.Ok at h; omega
  clear h
  go_enter Tryd.func35, Tryd.ntmps35
  go_wp2_with fail
  refine (length_any _ _ _ (by omega) (by omega)).mono ?_
  rintro e w' ⟨rfl, rfl⟩
  go_wp2_with fail
  go_ret2
  exact ⟨rfl, rfl⟩
end Go.Proofs.YtfgadkknfehkcaaDoor
