/- The walks of Stamp and Months of the program and of the reference, case by case. -/
import Derived.Test.YtfgadkknfehkcaaDoorStamp
namespace Go.Proofs.YtfgadkknfehkcaaDoor
open Go.RowKit
set_option linter.unusedVariables false

theorem Stamp_no (n : Int) (w : World) (h : ¬ IsDay n) :
    Calls Tryd.prog 40 #[.int .i64 n] w fun e w' => e = .returned (.tuple #[.string nos, .int .i64 1]) ∧ w = w' := by
  have hv : decide (0 ≤ n ∧ n ≤ 3652059) = false := by simpa using h
  clear h
  go_enter Tryd.func40, Tryd.ntmps40
  go_wp2_with fail
  refine (isDay_any _ _).mono ?_
  rintro e w' ⟨rfl, rfl⟩
  rw [hv]; clear hv
  go_wp2
  go_ret2
  exact ⟨rfl, rfl⟩
theorem Stamp_zero (w : World) :
    Calls Tryd.prog 40 #[.int .i64 0] w fun e w' => e = .returned (.tuple #[.string blanks, .int .i64 0]) ∧ w = w' := by
  have hv : decide ((0 : Int) ≤ 0 ∧ (0 : Int) ≤ 3652059) = true := by decide
  go_enter Tryd.func40, Tryd.ntmps40
  go_wp2_with fail
  refine (isDay_any _ _).mono ?_
  rintro e w' ⟨rfl, rfl⟩
  rw [hv]; clear hv
  go_wp2_with fail
  refine (stamp_zero _).mono ?_
  rintro e w' ⟨rfl, rfl⟩
  go_wp2
  go_ret2
  exact ⟨rfl, rfl⟩
theorem Stamp_of (y m d n : Int) (w : World) (h : Cal.Ok y m d) (hn : Cal.num y m d = n) (ht : Tab w) (hw : Pow w) :
    Calls Tryd.prog 40 #[.int .i64 n] w fun e w' => e = .returned (.tuple #[.string (stampB y m d), .int .i64 0]) ∧ Below w.heap.size w w' := by
  have hb := Cal.num_bd h
  rw [hn] at hb
  have hv : decide (0 ≤ n ∧ n ≤ 3652059) = true := by simp; omega
  have C := Lib.hid (fun w => stamp_of y m d n w h hn)
  have HT := Lib.hid ht; clear ht
  have HW := Lib.hid hw; clear hw
  clear h hn
  generalize stampB y m d = s at *
  go_enter Tryd.func40, Tryd.ntmps40
  go_wp2_with fail
  refine (isDay_any _ _).mono ?_
  rintro e w' ⟨rfl, rfl⟩
  rw [hv]; clear hv
  go_wp2_with fail
  refine (C.out _ HT.out HW.out).mono ?_
  rintro e w1 ⟨rfl, hb1⟩
  go_wp2
  go_ret2
  exact ⟨rfl, hb1⟩

set_option maxHeartbeats 400000 in
theorem refStamp_no (n : Int) (w : World) (h : ¬ IsDay n) :
    Calls Tryd.prog 41 #[.int .i64 n] w fun e w' => e = .returned (.tuple #[.string nos, .int .i64 1]) ∧ w = w' := by
  have H := Lib.hid h; clear h
  go_enter Tryd.func41, Tryd.ntmps41
  go_wp2_with fail
  refine (refSplit_no _ _ H.out).mono ?_
  rintro e w' ⟨rfl, rfl⟩
  go_wp2
  go_ret2
  exact ⟨rfl, rfl⟩
set_option maxHeartbeats 400000 in
theorem refStamp_zero (w : World) :
    Calls Tryd.prog 41 #[.int .i64 0] w fun e w' => e = .returned (.tuple #[.string blanks, .int .i64 0]) ∧ w = w' := by
  go_enter Tryd.func41, Tryd.ntmps41
  go_wp2_with fail
  refine (refSplit_zero _).mono ?_
  rintro e w' ⟨rfl, rfl⟩
  go_wp2
  go_ret2
  exact ⟨rfl, rfl⟩
set_option maxHeartbeats 1000000 in
theorem refStamp_of (y m d n : Int) (w : World) (h : Cal.Ok y m d) (hn : Cal.num y m d = n) :
    Calls Tryd.prog 41 #[.int .i64 n] w fun e w' => e = .returned (.tuple #[.string (stampB y m d), .int .i64 0]) ∧ w = w' := by
  have hb := Cal.num_bd h
  rw [hn] at hb
  have n0 : (n == 0) = false := by simp; omega
  have HN := Lib.hid hn; clear hn
  have HH := Lib.hid h
  obtain ⟨a, b, c, e, f, g⟩ := h
  have hm := Cal.ml_bd y m
  have s1 := dec_le y 3 (by omega) (by omega)
  have s2 := dec_le m 1 (by omega) (by omega)
  have s3 := dec_le d 1 (by omega) (by omega)
  have p1 := pad_size y 4 s1
  have p2 := pad_size m 2 s2
  have p3 := pad_size d 2 s3
  have C1 := Lib.hid (Padded_any y 4 (by omega) (by omega) s1 (by omega))
  have C2 := Lib.hid (Padded_any m 2 (by omega) (by omega) s2 (by omega))
  have C3 := Lib.hid (Padded_any d 2 (by omega) (by omega) s3 (by omega))
  clear s1 s2 s3
  unfold stampB
  generalize pad y 4 = x at *
  generalize pad m 2 = v at *
  generalize pad d 2 = u at *
  go_enter Tryd.func41, Tryd.ntmps41
  go_wp2_with fail
  refine (refSplit_of y m d n _ HH.out HN.out).mono ?_
  rintro e w' ⟨rfl, rfl⟩
  go_wp2_with fail
  refine (C1.out _).mono ?_
  rintro e w' ⟨rfl, rfl⟩
  go_wp2_with fail
  refine (C2.out _).mono ?_
  rintro e w' ⟨rfl, rfl⟩
  go_wp2_with fail
  refine (C3.out _).mono ?_
  rintro e w' ⟨rfl, rfl⟩
  go_wp2
  go_ret2
  exact ⟨rfl, rfl⟩

theorem Months_no (n k : Int) (w : World) (h : ¬ IsDay n) :
    Calls Tryd.prog 42 #[.int .i64 n, .int .i64 k] w fun e w' => e = .returned (.tuple #[.int .i64 0, .int .i64 1]) ∧ w = w' := by
  have hv : decide (0 ≤ n ∧ n ≤ 3652059) = false := by simpa using h
  clear h
  go_enter Tryd.func42, Tryd.ntmps42
  go_wp2_with fail
  refine (isDay_any _ _).mono ?_
  rintro e w' ⟨rfl, rfl⟩
  rw [hv]; clear hv
  go_wp2
  go_ret2
  exact ⟨rfl, rfl⟩
theorem Months_zero (k : Int) (w : World) :
    Calls Tryd.prog 42 #[.int .i64 0, .int .i64 k] w fun e w' => e = .returned (.tuple #[.int .i64 0, .int .i64 0]) ∧ w = w' := by
  have hv : decide ((0 : Int) ≤ 0 ∧ (0 : Int) ≤ 3652059) = true := by decide
  go_enter Tryd.func42, Tryd.ntmps42
  go_wp2_with fail
  refine (isDay_any _ _).mono ?_
  rintro e w' ⟨rfl, rfl⟩
  rw [hv]; clear hv
  go_wp2
  go_ret2
  exact ⟨rfl, rfl⟩
set_option maxHeartbeats 400000 in
theorem Months_far (n k : Int) (w : World) (h1 : 1 ≤ n) (h2 : n ≤ 3652059) (hk : k < -119988 ∨ 119988 < k) :
    Calls Tryd.prog 42 #[.int .i64 n, .int .i64 k] w fun e w' => e = .returned (.tuple #[.int .i64 0, .int .i64 1]) ∧ w = w' := by
  have hv : decide (0 ≤ n ∧ n ≤ 3652059) = true := by simp; omega
  have n0 : (n == 0) = false := by simp; omega
  rcases hk with hk | hk
  · have t1 : decide (k < -119988) = true := by simpa using hk
    go_enter Tryd.func42, Tryd.ntmps42
    go_wp2_with fail
    refine (isDay_any _ _).mono ?_
    rintro e w' ⟨rfl, rfl⟩
    rw [hv]; clear hv
    go_wp2
    go_ret2
    exact ⟨rfl, rfl⟩
  · have t1 : decide (k < -119988) = false := by simp; omega
    have t2 : decide (119988 < k) = true := by simpa using hk
    go_enter Tryd.func42, Tryd.ntmps42
    go_wp2_with fail
    refine (isDay_any _ _).mono ?_
    rintro e w' ⟨rfl, rfl⟩
    rw [hv]; clear hv
    go_wp2
    go_ret2
    exact ⟨rfl, rfl⟩
set_option maxHeartbeats 1000000 in
theorem Months_out (y m d n day k : Int) (w : World) (h : Cal.Ok y m d) (hn : Cal.num y m d = day) (r1 : -119988 ≤ n) (r2 : n ≤ 119988) (hk : y * 12 + m - 1 + n = k) (hf : k < 12 ∨ 120000 ≤ k) (ht : Tab w) :
    Calls Tryd.prog 42 #[.int .i64 day, .int .i64 n] w fun e w' => e = .returned (.tuple #[.int .i64 0, .int .i64 1]) ∧ w = w' := by
  have hb := Cal.num_bd h
  rw [hn] at hb
  have hv : decide (0 ≤ day ∧ day ≤ 3652059) = true := by simp; omega
  have HN := Lib.hid hn; clear hn
  have HT := Lib.hid ht; clear ht
  have d0 : (day == 0) = false := by simp; omega
  have HH := Lib.hid h
  obtain ⟨a, b, c, e, f, g⟩ := h
  have hd := Cal.ml_bd y m
  have e1 : IntKind.i64.wrap (y * 12) = y * 12 := IntWalk.i64_in _ (by omega)
  have e2 : IntKind.i64.wrap (y * 12 + m) = y * 12 + m := IntWalk.i64_in _ (by omega)
  have e3 : IntKind.i64.wrap (y * 12 + m - 1) = y * 12 + m - 1 := IntWalk.i64_in _ (by omega)
  have e4 : IntKind.i64.wrap (y * 12 + m - 1 + n) = k := by rw [hk]; exact IntWalk.i64_in _ (by omega)
  have HK := Lib.hid hk; clear hk
  rcases hf with hf | hf
  · have t1 : decide (k < 12) = true := by simpa using hf
    go_enter Tryd.func42, Tryd.ntmps42
    go_wp2_with fail
    refine (isDay_any _ _).mono ?_
    rintro e w' ⟨rfl, rfl⟩
    rw [hv]; clear hv
    go_wp2_with fail
    refine (split_of y m d day _ HH.out HN.out HT.out).mono ?_
    rintro e w' ⟨rfl, rfl⟩
    have HK2 := HK.out
    go_wp2
    go_ret2
    exact ⟨rfl, rfl⟩
  · have t1 : decide (k < 12) = false := by simp; omega
    have t2 : decide (120000 ≤ k) = true := by simpa using hf
    go_enter Tryd.func42, Tryd.ntmps42
    go_wp2_with fail
    refine (isDay_any _ _).mono ?_
    rintro e w' ⟨rfl, rfl⟩
    rw [hv]; clear hv
    go_wp2_with fail
    refine (split_of y m d day _ HH.out HN.out HT.out).mono ?_
    rintro e w' ⟨rfl, rfl⟩
    have HK2 := HK.out
    go_wp2
    go_ret2
    exact ⟨rfl, rfl⟩
end Go.Proofs.YtfgadkknfehkcaaDoor
