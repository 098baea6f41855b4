/- The walk of ValStamps. -/
import Derived.Test.YtfgadkknfehkcaaDoorUns
import Derived.Test.YtfgadkknfehkcaaDoorStamp2
namespace Go.Proofs.YtfgadkknfehkcaaDoor
open Go.RowKit
set_option linter.unusedVariables false

/-- Stamp of a day, and of no day; the stamp gives the day back. -/
theorem stamp_back (day : Int) : ∃ (t : ByteArray) (x : Int), (∀ w, Tab w → Pow w → Calls Tryd.prog 40 #[.int .i64 day] w fun e w' => e = .returned (.tuple #[.string t, .int .i64 x]) ∧ Below w.heap.size w w') ∧ ((x != 0) = true ∨ ((x != 0) = false ∧ UnIs t day true)) := by
  by_cases h : IsDay day
  · by_cases z : day = 0
    · subst z
      exact ⟨blanks, 0, fun w _ _ => (Stamp_zero w).mono fun e w' hq => ⟨hq.1, hq.2 ▸ Below.refl _ _⟩, .inr ⟨rfl, un_blanks⟩⟩
    · obtain ⟨y, m, d, ok, hn⟩ := Cal.num_all day (by unfold IsDay at h; omega) h.2
      exact ⟨stampB y m d, 0, fun w ht hp => Stamp_of y m d day w ok hn ht hp, .inr ⟨rfl, un_stamp y m d day ok hn⟩⟩
  · exact ⟨nos, 1, fun w _ _ => (Stamp_no day w h).mono fun e w' hq => ⟨hq.1, hq.2 ▸ Below.refl _ _⟩, .inl rfl⟩

set_option maxHeartbeats 2000000 in
theorem stamps_any (s : ByteArray) (day : Int) (w : World) (ht : Tab w) (hw : Pow w) (hs : s.size ≤ maxLen) :
    Calls Tryd.prog 12 #[.string s, .int .i64 day] w fun e w' => e = .returned (.bool true) ∧ Below w.heap.size w w' := by
  have hp := ht.pos
  obtain ⟨r, b, c1, c2⟩ := un_both s hs
  obtain ⟨t, x, c3, hback⟩ := stamp_back day
  have C1 := Lib.hid c1; clear c1
  have C2 := Lib.hid c2; clear c2
  have C3 := Lib.hid c3; clear c3
  have HT := Lib.hid ht; clear ht
  have HW := Lib.hid hw; clear hw
  have q1 : (r != r) = false := by simp
  have q2 : (b != b) = false := by simp
  have q3 : (day == day) = true := by simp
  unfold maxLen at hs
  by_cases hl : 20000 < s.size
  · clear hback
    go_enter Tryd.func12, Tryd.ntmps12
    go_wp2_with fail
    refine (known_any _ HT.out).mono ?_
    rintro e w1 ⟨rfl, hb1⟩
    go_wp2_with fail
    go_ret
    exact ⟨rfl, hb1⟩
  · rcases hback with hx | ⟨hx, hu⟩
    · go_enter Tryd.func12, Tryd.ntmps12
      go_wp2_with fail
      refine (C1.out _ HT.out).mono ?_
      rintro e w1 ⟨rfl, hb1⟩
      have z1 := hb1.size
      go_wp2_with fail
      refine (C2.out _).mono ?_
      rintro e w2 ⟨rfl, hb2⟩
      have z2 := hb2.size
      have hB2 : Below w.heap.size w w2 := hb1.trans (hb2.mono (by omega))
      have HT2 := Lib.hid (HT.out.below hB2 hp)
      have HW2 := Lib.hid (HW.out.below hB2)
      go_wp2_with fail
      refine (C3.out _ HT2.out HW2.out).mono ?_
      rintro e w3 ⟨rfl, hb3⟩
      have z3 := hb3.size
      have hB3 : Below w.heap.size w w3 := hB2.trans (hb3.mono (by omega))
      have HT3 := Lib.hid (HT.out.below hB3 hp)
      go_wp2_with fail
      refine (known_any _ HT3.out).mono ?_
      rintro e w4 ⟨rfl, hb4⟩
      go_wp2_with fail
      go_ret
      exact ⟨rfl, hB3.trans (hb4.mono (by omega))⟩
    · have C4 := Lib.hid hu.1; clear hu
      go_enter Tryd.func12, Tryd.ntmps12
      go_wp2_with fail
      refine (C1.out _ HT.out).mono ?_
      rintro e w1 ⟨rfl, hb1⟩
      have z1 := hb1.size
      go_wp2_with fail
      refine (C2.out _).mono ?_
      rintro e w2 ⟨rfl, hb2⟩
      have z2 := hb2.size
      have hB2 : Below w.heap.size w w2 := hb1.trans (hb2.mono (by omega))
      have HT2 := Lib.hid (HT.out.below hB2 hp)
      have HW2 := Lib.hid (HW.out.below hB2)
      go_wp2_with fail
      refine (C3.out _ HT2.out HW2.out).mono ?_
      rintro e w3 ⟨rfl, hb3⟩
      have z3 := hb3.size
      have hB3 : Below w.heap.size w w3 := hB2.trans (hb3.mono (by omega))
      have HT3 := Lib.hid (HT.out.below hB3 hp)
      go_wp2_with fail
      refine (C4.out _ HT3.out).mono ?_
      rintro e w4 ⟨rfl, hb4⟩
      have z4 := hb4.size
      have hB4 : Below w.heap.size w w4 := hB3.trans (hb4.mono (by omega))
      have HT4 := Lib.hid (HT.out.below hB4 hp)
      go_wp2_with fail
      refine (known_any _ HT4.out).mono ?_
      rintro e w5 ⟨rfl, hb5⟩
      go_wp2_with fail
      go_ret
      exact ⟨rfl, hB4.trans (hb5.mono (by omega))⟩
end Go.Proofs.YtfgadkknfehkcaaDoor
