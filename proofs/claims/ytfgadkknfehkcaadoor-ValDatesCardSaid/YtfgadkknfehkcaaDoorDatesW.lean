/- The walk of ValDates of the program. -/
import Derived.Test.YtfgadkknfehkcaaDoorKnown
namespace Go.Proofs.YtfgadkknfehkcaaDoor
open Go.RowKit
set_option linter.unusedVariables false

set_option maxHeartbeats 1000000 in
theorem dates_any (y m d : Int) (w : World) (ht : Tab w) :
    Calls Tryd.prog 10 #[.int .i64 y, .int .i64 m, .int .i64 d] w fun e w' => e = .returned (.bool true) ∧ Below w.heap.size w w' := by
  have HT := Lib.hid ht; clear ht
  by_cases h : Cal.Ok y m d
  · generalize hn : Cal.num y m d = n
    have HN := Lib.hid hn; clear hn
    have HH := Lib.hid h; clear h
    go_enter Tryd.func10, Tryd.ntmps10
    go_wp2_with fail
    refine (days_yes y m d _ HH.out HT.out).mono ?_
    rintro e w' ⟨rfl, rfl⟩
    rw [HN.out]
    go_wp2_with fail
    refine (refDays_yes y m d _ HH.out).mono ?_
    rintro e w' ⟨rfl, rfl⟩
    rw [HN.out]
    go_wp2_with fail
    refine (Split_of y m d n _ HH.out HN.out HT.out).mono ?_
    rintro e w' ⟨rfl, rfl⟩
    go_wp2_with fail
    refine (known_any _ HT.out).mono ?_
    rintro e w1 ⟨rfl, hb⟩
    go_wp2_with fail
    go_ret
    exact ⟨rfl, hb⟩
  · have HH := Lib.hid h; clear h
    go_enter Tryd.func10, Tryd.ntmps10
    go_wp2_with fail
    refine (days_no y m d _ HH.out HT.out).mono ?_
    rintro e w' ⟨rfl, rfl⟩
    go_wp2_with fail
    refine (refDays_no y m d _ HH.out).mono ?_
    rintro e w' ⟨rfl, rfl⟩
    go_wp2_with fail
    refine (known_any _ HT.out).mono ?_
    rintro e w1 ⟨rfl, hb⟩
    go_wp2_with fail
    go_ret
    exact ⟨rfl, hb⟩
end Go.Proofs.YtfgadkknfehkcaaDoor
