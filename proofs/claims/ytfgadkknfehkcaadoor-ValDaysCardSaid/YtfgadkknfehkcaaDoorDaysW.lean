/- The walk of ValDays. -/
import Derived.Test.YtfgadkknfehkcaaDoorRefMonths
import Derived.Test.YtfgadkknfehkcaaDoorKnown
namespace Go.Proofs.YtfgadkknfehkcaaDoor
open Go.RowKit
set_option linter.unusedVariables false

set_option maxHeartbeats 2000000 in
theorem days_any (day n : Int) (w : World) (ht : Tab w) (hw : Pow w) :
    Calls Tryd.prog 11 #[.int .i64 day, .int .i64 n] w fun e w' => e = .returned (.bool true) ∧ Below w.heap.size w w' := by
  have hp := ht.pos
  obtain ⟨a, b, c, x, c1, c2⟩ := split_both day
  obtain ⟨s, y, c3, c4⟩ := stamp_both day
  obtain ⟨r, z, c5, c6⟩ := months_both day n
  have c7 := fun w => Weekday_any day w
  have c8 := fun w => refWeekday_any day w
  generalize wkR day = u at *
  generalize dyE day = v at *
  have C1 := Lib.hid c1; clear c1
  have C2 := Lib.hid c2; clear c2
  have C3 := Lib.hid c3; clear c3
  have C4 := Lib.hid c4; clear c4
  have C5 := Lib.hid c5; clear c5
  have C6 := Lib.hid c6; clear c6
  have C7 := Lib.hid c7; clear c7
  have C8 := Lib.hid c8; clear c8
  have HT := Lib.hid ht; clear ht
  have HW := Lib.hid hw; clear hw
  have q1 : (a == a) = true := by simp
  have q2 : (b == b) = true := by simp
  have q3 : (c == c) = true := by simp
  have q4 : (x == x) = true := by simp
  have q5 : (s.toList == s.toList) = true := by simp
  have q6 : (y == y) = true := by simp
  have q7 : (r == r) = true := by simp
  have q8 : (z == z) = true := by simp
  have q9 : (u == u) = true := by simp
  have q0 : (v == v) = true := by simp
  go_enter Tryd.func11, Tryd.ntmps11
  go_wp2_with fail
  refine (C1.out _ HT.out).mono ?_
  rintro e w' ⟨rfl, rfl⟩
  go_wp2_with fail
  refine (C2.out _).mono ?_
  rintro e w' ⟨rfl, rfl⟩
  go_wp2_with fail
  refine (C7.out _).mono ?_
  rintro e w' ⟨rfl, rfl⟩
  go_wp2_with fail
  refine (C8.out _).mono ?_
  rintro e w' ⟨rfl, rfl⟩
  go_wp2_with fail
  refine (C3.out _ HT.out HW.out).mono ?_
  rintro e w1 ⟨rfl, hb1⟩
  have HT1 := Lib.hid (HT.out.below hb1 hp)
  have z1 := hb1.size
  go_wp2_with fail
  refine (C4.out _).mono ?_
  rintro e w' ⟨rfl, rfl⟩
  go_wp2_with fail
  refine (C5.out _ HT1.out).mono ?_
  rintro e w' ⟨rfl, rfl⟩
  go_wp2_with fail
  refine (C6.out _).mono ?_
  rintro e w' ⟨rfl, rfl⟩
  go_wp2_with fail
  refine (known_any _ HT1.out).mono ?_
  rintro e w2 ⟨rfl, hb2⟩
  go_wp2_with fail
  go_ret
  exact ⟨rfl, hb1.trans (hb2.mono (by omega))⟩
end Go.Proofs.YtfgadkknfehkcaaDoor
