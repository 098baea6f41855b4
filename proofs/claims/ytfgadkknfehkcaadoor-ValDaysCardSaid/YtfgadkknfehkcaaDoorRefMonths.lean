/- The walk of Months of the reference, case by case. -/
import Derived.Test.YtfgadkknfehkcaaDoorStamp2
namespace Go.Proofs.YtfgadkknfehkcaaDoor
open Go.RowKit
set_option linter.unusedVariables false

set_option maxHeartbeats 400000 in
theorem refMonths_no (n k : Int) (w : World) (h : ¬ IsDay n) :
    Calls Tryd.prog 43 #[.int .i64 n, .int .i64 k] w fun e w' => e = .returned (.tuple #[.int .i64 0, .int .i64 1]) ∧ w = w' := by
  have H := Lib.hid h; clear h
  go_enter Tryd.func43, Tryd.ntmps43
  go_wp2_with fail
  refine (refSplit_no _ _ H.out).mono ?_
  rintro e w' ⟨rfl, rfl⟩
  go_wp2
  go_ret2
  exact ⟨rfl, rfl⟩
set_option maxHeartbeats 400000 in
theorem refMonths_zero (k : Int) (w : World) :
    Calls Tryd.prog 43 #[.int .i64 0, .int .i64 k] w fun e w' => e = .returned (.tuple #[.int .i64 0, .int .i64 0]) ∧ w = w' := by
  go_enter Tryd.func43, Tryd.ntmps43
  go_wp2_with fail
  refine (refSplit_zero _).mono ?_
  rintro e w' ⟨rfl, rfl⟩
  go_wp2
  go_ret2
  exact ⟨rfl, rfl⟩
set_option maxHeartbeats 1000000 in
/-- So far away that the reference does not count. -/
theorem refMonths_far (y m d n day : Int) (w : World) (h : Cal.Ok y m d) (hn : Cal.num y m d = day) (hk : n < -200000 ∨ 200000 < n) :
    Calls Tryd.prog 43 #[.int .i64 day, .int .i64 n] w fun e w' => e = .returned (.tuple #[.int .i64 0, .int .i64 1]) ∧ w = w' := by
  have hb := Cal.num_bd h
  rw [hn] at hb
  have HN := Lib.hid hn; clear hn
  have d0 : (day == 0) = false := by simp; omega
  have HH := Lib.hid h; clear h
  rcases hk with hk | hk
  · have t1 : decide (n < -200000) = true := by simpa using hk
    go_enter Tryd.func43, Tryd.ntmps43
    go_wp2_with fail
    refine (refSplit_of y m d day _ HH.out HN.out).mono ?_
    rintro e w' ⟨rfl, rfl⟩
    go_wp2
    go_ret2
    exact ⟨rfl, rfl⟩
  · have t1 : decide (n < -200000) = false := by simp; omega
    have t2 : decide (200000 < n) = true := by simpa using hk
    go_enter Tryd.func43, Tryd.ntmps43
    go_wp2_with fail
    refine (refSplit_of y m d day _ HH.out HN.out).mono ?_
    rintro e w' ⟨rfl, rfl⟩
    go_wp2
    go_ret2
    exact ⟨rfl, rfl⟩
set_option maxHeartbeats 1000000 in
theorem refMonths_out (y m d n day k : Int) (w : World) (h : Cal.Ok y m d) (hn : Cal.num y m d = day) (r1 : -200000 ≤ n) (r2 : n ≤ 200000) (hk : 12 * y + m - 1 + n = k) (hf : k < 12 ∨ 120000 ≤ k) :
    Calls Tryd.prog 43 #[.int .i64 day, .int .i64 n] w fun e w' => e = .returned (.tuple #[.int .i64 0, .int .i64 1]) ∧ w = w' := by
  have hb := Cal.num_bd h
  rw [hn] at hb
  have HN := Lib.hid hn; clear hn
  have d0 : (day == 0) = false := by simp; omega
  have HH := Lib.hid h
  obtain ⟨a, b, c, e, f, g⟩ := h
  have e1 : IntKind.i64.wrap (12 * y) = 12 * y := IntWalk.i64_in _ (by omega)
  have e2 : IntKind.i64.wrap (12 * y + m) = 12 * y + m := IntWalk.i64_in _ (by omega)
  have e3 : IntKind.i64.wrap (12 * y + m - 1) = 12 * y + m - 1 := IntWalk.i64_in _ (by omega)
  have e4 : IntKind.i64.wrap (12 * y + m - 1 + n) = k := by rw [hk]; exact IntWalk.i64_in _ (by omega)
  have HK := Lib.hid hk; clear hk
  rcases hf with hf | hf
  · have t1 : decide (k < 12) = true := by simpa using hf
    go_enter Tryd.func43, Tryd.ntmps43
    go_wp2_with fail
    refine (refSplit_of y m d day _ HH.out HN.out).mono ?_
    rintro e w' ⟨rfl, rfl⟩
    have HK2 := HK.out
    go_wp2
    go_ret2
    exact ⟨rfl, rfl⟩
  · have t1 : decide (k < 12) = false := by simp; omega
    have t2 : decide (120000 ≤ k) = true := by simpa using hf
    go_enter Tryd.func43, Tryd.ntmps43
    go_wp2_with fail
    refine (refSplit_of y m d day _ HH.out HN.out).mono ?_
    rintro e w' ⟨rfl, rfl⟩
    have HK2 := HK.out
    go_wp2
    go_ret2
    exact ⟨rfl, rfl⟩
set_option maxHeartbeats 1000000 in
theorem refMonths_yes (y m d n day k : Int) (w : World) (h : Cal.Ok y m d) (hn : Cal.num y m d = day) (r1 : -200000 ≤ n) (r2 : n ≤ 200000) (hk : 12 * y + m - 1 + n = k) (k1 : 12 ≤ k) (k2 : k < 120000) :
    Calls Tryd.prog 43 #[.int .i64 day, .int .i64 n] w fun e w' => e = .returned (.tuple #[.int .i64 (Cal.num (k / 12) (k % 12 + 1) (min d (Cal.ml (k / 12) (k % 12 + 1)))), .int .i64 0]) ∧ w = w' := by
  have hb := Cal.num_bd h
  rw [hn] at hb
  have HN := Lib.hid hn; clear hn
  have d0 : (day == 0) = false := by simp; omega
  have hok := ok_month (k / 12) (k % 12 + 1) d (by omega) (by omega) (by omega) (by omega) (by have := h.2.2.2.2.1; omega)
  have HOK := Lib.hid hok; clear hok
  have HH := Lib.hid h
  obtain ⟨a, b, c, e, f, g⟩ := h
  have hd := Cal.ml_bd y m
  have hd2 := Cal.ml_bd (k / 12) (k % 12 + 1)
  have HK := Lib.hid hk; clear hk
  go_enter Tryd.func43, Tryd.ntmps43
  go_wp2_with fail
  refine (refSplit_of y m d day _ HH.out HN.out).mono ?_
  rintro e w' ⟨rfl, rfl⟩
  have HK2 := HK.out
  go_wp2_with fail
  refine (length_any _ _ _ (by omega) (by omega)).mono ?_
  rintro e w' ⟨rfl, rfl⟩
  go_wp2_with fail
  refine (refDays_yes _ _ _ _ HOK.out).mono ?_
  rintro e w' ⟨rfl, rfl⟩
  go_wp2_with fail
  go_ret2
  exact ⟨rfl, rfl⟩

/-- Months of both: one answer. -/
theorem months_both (day n : Int) : ∃ r x : Int, (∀ w, Tab w → Calls Tryd.prog 42 #[.int .i64 day, .int .i64 n] w fun e w' => e = .returned (.tuple #[.int .i64 r, .int .i64 x]) ∧ w = w') ∧
    (∀ w, Calls Tryd.prog 43 #[.int .i64 day, .int .i64 n] w fun e w' => e = .returned (.tuple #[.int .i64 r, .int .i64 x]) ∧ w = w') := by
  by_cases h : IsDay day
  · by_cases z : day = 0
    · subst z
      exact ⟨0, 0, fun w _ => Months_zero n w, fun w => refMonths_zero n w⟩
    · obtain ⟨y, m, d, ok, hn⟩ := Cal.num_all day (by unfold IsDay at h; omega) h.2
      have hr := ok
      obtain ⟨a, b, c, e, f, g⟩ := hr
      by_cases near : -119988 ≤ n ∧ n ≤ 119988
      · by_cases hk : 12 ≤ y * 12 + m - 1 + n ∧ y * 12 + m - 1 + n < 120000
        · exact ⟨_, _, fun w ht => months_yes y m d n day _ w ok hn near.1 near.2 rfl hk.1 hk.2 ht, fun w => refMonths_yes y m d n day _ w ok hn (by omega) (by omega) (by omega) hk.1 hk.2⟩
        · exact ⟨0, 1, fun w ht => Months_out y m d n day _ w ok hn near.1 near.2 rfl (by omega) ht, fun w => refMonths_out y m d n day _ w ok hn (by omega) (by omega) rfl (by omega)⟩
      · refine ⟨0, 1, fun w ht => Months_far day n w (by unfold IsDay at h; omega) h.2 (by omega), fun w => ?_⟩
        by_cases nr : -200000 ≤ n ∧ n ≤ 200000
        · exact refMonths_out y m d n day _ w ok hn nr.1 nr.2 rfl (by omega)
        · exact refMonths_far y m d n day w ok hn (by omega)
  · exact ⟨0, 1, fun w _ => Months_no day n w h, fun w => refMonths_no day n w h⟩
theorem split_both (day : Int) : ∃ a b c x : Int, (∀ w, Tab w → Calls Tryd.prog 36 #[.int .i64 day] w fun e w' => e = .returned (.tuple #[.int .i64 a, .int .i64 b, .int .i64 c, .int .i64 x]) ∧ w = w') ∧
    (∀ w, Calls Tryd.prog 37 #[.int .i64 day] w fun e w' => e = .returned (.tuple #[.int .i64 a, .int .i64 b, .int .i64 c, .int .i64 x]) ∧ w = w') := by
  by_cases h : IsDay day
  · by_cases z : day = 0
    · subst z
      exact ⟨0, 0, 0, 0, fun w _ => Split_zero w, fun w => refSplit_zero w⟩
    · obtain ⟨y, m, d, ok, hn⟩ := Cal.num_all day (by unfold IsDay at h; omega) h.2
      exact ⟨y, m, d, 0, fun w ht => Split_of y m d day w ok hn ht, fun w => refSplit_of y m d day w ok hn⟩
  · exact ⟨0, 0, 0, 1, fun w _ => Split_no day w h, fun w => refSplit_no day w h⟩
theorem stamp_both (day : Int) : ∃ (s : ByteArray) (x : Int), (∀ w, Tab w → Pow w → Calls Tryd.prog 40 #[.int .i64 day] w fun e w' => e = .returned (.tuple #[.string s, .int .i64 x]) ∧ Below w.heap.size w w') ∧
    (∀ w, Calls Tryd.prog 41 #[.int .i64 day] w fun e w' => e = .returned (.tuple #[.string s, .int .i64 x]) ∧ w = w') := by
  by_cases h : IsDay day
  · by_cases z : day = 0
    · subst z
      exact ⟨blanks, 0, fun w _ _ => (Stamp_zero w).mono fun e w' hq => ⟨hq.1, hq.2 ▸ Below.refl _ _⟩, fun w => refStamp_zero w⟩
    · obtain ⟨y, m, d, ok, hn⟩ := Cal.num_all day (by unfold IsDay at h; omega) h.2
      exact ⟨stampB y m d, 0, fun w ht hp => Stamp_of y m d day w ok hn ht hp, fun w => refStamp_of y m d day w ok hn⟩
  · exact ⟨nos, 1, fun w _ _ => (Stamp_no day w h).mono fun e w' hq => ⟨hq.1, hq.2 ▸ Below.refl _ _⟩, fun w => refStamp_no day w h⟩
end Go.Proofs.YtfgadkknfehkcaaDoor
