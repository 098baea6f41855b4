/- The walk of PageCases. -/
import Derived.Test.YtgeikbcfjidgcaaDoorPgE
namespace Go.Proofs.YtgeikbcfjidgcaaDoor
open Go.RowKit
set_option linter.unusedVariables false
set_option linter.unusedSimpArgs false

set_option maxHeartbeats 8000000 in
set_option maxRecDepth 40000 in
theorem pageCases_any (s : ByteArray) (n : Int) (w : World) (ht : Tabs w) (hs : s.size ≤ maxLen) :
    Calls Tryd.prog 6 #[.string s, .int .i64 n] w fun e w' => e = .returned (.bool true) ∧ Below w.heap.size w w' := by
  have HT := Lib.hid ht; clear ht
  have C0 := Lib.hid (over_any s hs)
  cases ho : decide (16384 < s.size)
  · rw [ho] at C0
    clear ho
    have C1 := Lib.hid (fun W h => Upper_any s n W h hs)
    have C2 := Lib.hid (fun W => refUpperT_any s n W hs)
    have C3 := Lib.hid (fun W h => Lower_any s n W h hs)
    have C4 := Lib.hid (fun W => refLowerT_any s n W hs)
    have C5 := Lib.hid (fun W h => Proper_any s n W h hs)
    have C6 := Lib.hid (fun W => refProperT_any s n W hs)
    have C7 := Lib.hid (fun W h => Count_any s n W h hs)
    have C8 := Lib.hid (fun W => refCount_any s n W hs)
    generalize upT s n = a at *
    generalize lowT s n = b at *
    generalize propT s n = c at *
    generalize cntA s n = ca at *
    generalize cntD s n = cd at *
    generalize cntO s n = co at *
    generalize wrongN n 0 [s] = er at *
    go_enter Tryd.func6, Tryd.ntmps6
    go_wp2_with fail
    refine (C0.out _).mono ?_
    rintro e w1 ⟨rfl, rfl⟩
    go_wp2_with fail
    refine (C1.out _ HT.out).mono ?_
    rintro e x1 ⟨rfl, hb1⟩
    have HT1 := Lib.hid (HT.out.below hb1 (Nat.le_refl _))
    have HB1 := Lib.hid hb1; clear hb1
    go_wp2_with fail
    refine (C2.out _).mono ?_
    rintro e x2 ⟨rfl, hb2⟩
    have HT2 := Lib.hid (HT1.out.below hb2 (Nat.le_refl _))
    have HB2 := Lib.hid (HB1.out.trans (hb2.mono HB1.out.size)); clear hb2
    go_wp2_with fail
    refine (C3.out _ HT2.out).mono ?_
    rintro e x3 ⟨rfl, hb3⟩
    have HT3 := Lib.hid (HT2.out.below hb3 (Nat.le_refl _))
    have HB3 := Lib.hid (HB2.out.trans (hb3.mono HB2.out.size)); clear hb3
    go_wp2_with fail
    refine (C4.out _).mono ?_
    rintro e x4 ⟨rfl, hb4⟩
    have HT4 := Lib.hid (HT3.out.below hb4 (Nat.le_refl _))
    have HB4 := Lib.hid (HB3.out.trans (hb4.mono HB3.out.size)); clear hb4
    go_wp2_with fail
    refine (C5.out _ HT4.out).mono ?_
    rintro e x5 ⟨rfl, hb5⟩
    have HT5 := Lib.hid (HT4.out.below hb5 (Nat.le_refl _))
    have HB5 := Lib.hid (HB4.out.trans (hb5.mono HB4.out.size)); clear hb5
    go_wp2_with fail
    refine (C6.out _).mono ?_
    rintro e x6 ⟨rfl, hb6⟩
    have HT6 := Lib.hid (HT5.out.below hb6 (Nat.le_refl _))
    have HB6 := Lib.hid (HB5.out.trans (hb6.mono HB5.out.size)); clear hb6
    go_wp2_with fail
    refine (C7.out _ HT6.out).mono ?_
    rintro e x7 ⟨rfl, hb7⟩
    have HT7 := Lib.hid (HT6.out.below hb7 (Nat.le_refl _))
    have HB7 := Lib.hid (HB6.out.trans (hb7.mono HB6.out.size)); clear hb7
    go_wp2_with fail
    refine (C8.out _).mono ?_
    rintro e x8 ⟨rfl, hb8⟩
    have HT8 := Lib.hid (HT7.out.below hb8 (Nat.le_refl _))
    have HB8 := Lib.hid (HB7.out.trans (hb8.mono HB7.out.size)); clear hb8
    go_wp2_with fail
    refine (known_any _ HT8.out).mono ?_
    rintro e x9 ⟨rfl, hb9⟩
    have HB9 := Lib.hid (HB8.out.trans (hb9.mono HB8.out.size)); clear hb9
    go_wp2_with fail
    go_ret
    exact ⟨rfl, HB9.out⟩
  · rw [ho] at C0
    clear ho
    go_enter Tryd.func6, Tryd.ntmps6
    go_wp2_with fail
    refine (C0.out _).mono ?_
    rintro e w1 ⟨rfl, rfl⟩
    go_wp2_with fail
    refine (known_any _ HT.out).mono ?_
    rintro e w3 ⟨rfl, hb3⟩
    have HB3 := Lib.hid hb3; clear hb3
    go_wp2_with fail
    go_ret
    exact ⟨rfl, HB3.out⟩
end Go.Proofs.YtgeikbcfjidgcaaDoor
