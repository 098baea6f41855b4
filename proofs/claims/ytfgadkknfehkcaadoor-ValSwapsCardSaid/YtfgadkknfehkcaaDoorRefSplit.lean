/- The walk of Split of the reference. -/
import Derived.Test.YtfgadkknfehkcaaDoorDays
namespace Go.Proofs.YtfgadkknfehkcaaDoor
open Go.RowKit
set_option linter.unusedVariables false

theorem ok_first (y m : Int) (a : 1 ≤ y) (b : y ≤ 9999) (c : 1 ≤ m) (e : m ≤ 12) : Cal.Ok y m 1 := ⟨a, b, c, e, by omega, by have := Cal.ml_bd y m; omega⟩

theorem refSplit_no (n : Int) (w : World) (h : ¬ (0 ≤ n ∧ n ≤ 3652059)) :
    Calls Tryd.prog 37 #[.int .i64 n] w fun e w' => e = .returned (.tuple #[.int .i64 0, .int .i64 0, .int .i64 0, .int .i64 1]) ∧ w = w' := by
  by_cases a : n < 0
  · clear h
    go_enter Tryd.func37, Tryd.ntmps37
    go_wp2
    refine bodyPost_ret (v := .tuple #[.int .i64 0, .int .i64 0, .int .i64 0, .int .i64 1]) (by simp [results, Tryd.results37, go_sem]) rfl ⟨rfl, rfl⟩
  · have b : 3652059 < n := by omega
    clear h
    go_enter Tryd.func37, Tryd.ntmps37
    go_wp2
    refine bodyPost_ret (v := .tuple #[.int .i64 0, .int .i64 0, .int .i64 0, .int .i64 1]) (by simp [results, Tryd.results37, go_sem]) rfl ⟨rfl, rfl⟩
theorem refSplit_zero (w : World) :
    Calls Tryd.prog 37 #[.int .i64 0] w fun e w' => e = .returned (.tuple #[.int .i64 0, .int .i64 0, .int .i64 0, .int .i64 0]) ∧ w = w' := by
  go_enter Tryd.func37, Tryd.ntmps37
  go_wp2
  refine bodyPost_ret (v := .tuple #[.int .i64 0, .int .i64 0, .int .i64 0, .int .i64 0]) (by simp [results, Tryd.results37, go_sem]) rfl ⟨rfl, rfl⟩

set_option maxHeartbeats 1000000 in
theorem refSplit_of (y m d n : Int) (w : World) (h : Cal.Ok y m d) (hn : Cal.num y m d = n) :
    Calls Tryd.prog 37 #[.int .i64 n] w fun e w' => e = .returned (.tuple #[.int .i64 y, .int .i64 m, .int .i64 d, .int .i64 0]) ∧ w = w' := by
  have hb := Cal.num_bd h
  obtain ⟨f1, f2, f3, f4, f5⟩ := Cal.num_facts h
  rw [hn] at hb f1 f2 f3 f4 f5
  clear hn
  have F5 := Lib.hid f5; clear f5
  obtain ⟨a, b, c, e, f, g⟩ := h
  have n0 : (n == 0) = false := by simp; omega
  go_enter Tryd.func37, Tryd.ntmps37
  go_wp2
  go_loop [6, 7] (fun t u => ∃ l r : Int, 1 ≤ l ∧ l ≤ y ∧ y ≤ r ∧ r ≤ 9999 ∧ t = .int .i64 l ∧ u = .int .i64 r) (fun t u => (intOf u - intOf t).toNat)
  case atStart => exact ⟨1, 9999, by omega, by omega, by omega, by omega, rfl, rfl⟩
  case round =>
    obtain ⟨l, r, l1, l2, r1, r2, rfl, rfl⟩ := hrel
    by_cases hlr : l < r
    · have hok := ok_first ((l + r + 1) / 2) 1 (by omega) (by omega) (by omega) (by omega)
      have HOK := Lib.hid hok; clear hok
      have hnum : Cal.num ((l + r + 1) / 2) 1 1 = Cal.ys ((l + r + 1) / 2) + 1 := by simp [Cal.num, Cal.bf_one]
      have yb := Cal.ys_bd ((l + r + 1) / 2) (by omega) (by omega)
      by_cases hle : (l + r + 1) / 2 ≤ y
      · have hm := Cal.ys_mono ((l + r + 1) / 2) y (by omega) hle
        have t1 : decide (Cal.ys ((l + r + 1) / 2) + 1 ≤ n) = true := by simp; omega
        go_wp2_with fail
        refine (refDays_yes _ _ _ _ HOK.out).mono ?_
        rintro e w' ⟨rfl, rfl⟩
        rw [hnum]
        go_wp2_with fail
        go_round
        case rel => exact ⟨_, r, by omega, hle, r1, r2, rfl, rfl⟩
        case measure => simp [intOf]; omega
      · have hm := Cal.ys_mono (y + 1) ((l + r + 1) / 2) (by omega) (by omega)
        have t1 : decide (Cal.ys ((l + r + 1) / 2) + 1 ≤ n) = false := by simp; omega
        go_wp2_with fail
        refine (refDays_yes _ _ _ _ HOK.out).mono ?_
        rintro e w' ⟨rfl, rfl⟩
        rw [hnum]
        go_wp2_with fail
        go_round
        case rel => exact ⟨l, _, l1, l2, by omega, by omega, rfl, rfl⟩
        case measure => simp [intOf]; omega
    · have hl : l = y := by omega
      have hr : r = y := by omega
      subst hr
      subst hl
      clear hlr l2 r1
      have yb := Cal.ys_bd l (by omega) (by omega)
      have hH : Hid (∀ j : Int, 1 ≤ j → j ≤ 12 → Cal.Ok l j 1) := Lib.hid fun j h1 h2 => ok_first l j l1 r2 h1 h2
      have hN : Hid (∀ j : Int, Cal.num l j 1 = Cal.ys l + Cal.bf l j + 1) := Lib.hid fun j => rfl
      have i1 : ¬ l < l := by omega
      go_wp2_with fail
      refine (refDays_yes _ _ _ _ (hH.out 12 (by omega) (by omega))).mono ?_
      rintro e w' ⟨rfl, rfl⟩
      go_wp2_with fail
      go_loop [11, 12] (fun t u => ∃ j : Int, m ≤ j ∧ j ≤ 12 ∧ t = .int .i64 j ∧ u = .int .i64 (Cal.num l j 1)) (fun t _ => (intOf t).toNat)
      case atStart => exact ⟨12, by omega, by omega, rfl, rfl⟩
      case round =>
        obtain ⟨j, j1, j2, rfl, rfl⟩ := hrel
        have hnj := hN.out j
        have ub := Cal.bf_bd l j
        by_cases hj : m < j
        · have s1 := Cal.bf_mono l (m + 1) j (by omega) (by omega) (by omega)
          have t3 : decide (n < Cal.num l j 1) = true := by rw [hnj]; simp; omega
          clear hnj
          go_wp2_with fail
          refine (refDays_yes _ _ _ _ (hH.out (j - 1) (by omega) (by omega))).mono ?_
          rintro e w' ⟨rfl, rfl⟩
          go_wp2_with fail
          go_round
          case rel => exact ⟨j - 1, by omega, by omega, rfl, rfl⟩
          case measure => simp [intOf]; omega
        · have hjm : j = m := by omega
          subst hjm
          have t3 : decide (n < Cal.num l j 1) = false := by rw [hnj]; simp; omega
          have hd : n - Cal.num l j 1 + 1 = d := by rw [hnj]; have := F5.out; omega
          have HD := Lib.hid hd; clear hd
          have nb : 0 ≤ Cal.num l j 1 ∧ Cal.num l j 1 ≤ 3652800 := by rw [hnj]; omega
          clear hnj
          generalize Cal.num l j 1 = x at *
          go_wp2_with fail
          refine bodyPost_ret (v := .tuple #[.int .i64 l, .int .i64 j, .int .i64 (n - x + 1), .int .i64 0]) (by simp [results, Tryd.results37, go_sem]) rfl ⟨by rw [HD.out], rfl⟩
end Go.Proofs.YtfgadkknfehkcaaDoor
