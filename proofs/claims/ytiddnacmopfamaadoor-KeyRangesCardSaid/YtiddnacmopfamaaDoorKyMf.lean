/- Ranges of keys: a key inside a range. -/
import Derived.Test.YtiddnacmopfamaaDoorKyMe
import Derived.Test.YtiddnacmopfamaaDoorKyOc
namespace Go.Proofs.YtiddnacmopfamaaDoor
open Go.RowKit
set_option linter.unusedVariables false
set_option maxRecDepth 40000

set_option maxHeartbeats 400000 in
theorem inside_any (K lo hi : ByteArray) (w : World) (h1 : K.size ≤ maxLen) (h2 : lo.size ≤ maxLen) (h3 : hi.size ≤ maxLen) :
    Calls Tryd.prog 39 #[.string K, .string lo, .string hi] w fun e w' => e = .returned (.bool (inR K lo hi)) ∧ Below w.heap.size w w' := by
  have C1 := Lib.hid (fun W => cmpTexts_any K lo W h1 h2)
  have C2 := Lib.hid (fun W => cmpTexts_any K hi W h1 h3)
  have HI := Lib.hid (show inR K lo hi = (decide (0 ≤ Lib.compareBytes K.data.toList lo.data.toList) && (hi.toList.isEmpty || decide (Lib.compareBytes K.data.toList hi.data.toList < 0))) from rfl)
  have hb1 := cmpB_bd K.data.toList lo.data.toList
  have hb2 := cmpB_bd K.data.toList hi.data.toList
  have hem : hi.toList.isEmpty = (hi.toList == []) := by cases hi.toList <;> rfl
  rw [hem] at HI
  generalize inR K lo hi = r at *
  generalize Lib.compareBytes K.data.toList lo.data.toList = a at *
  generalize Lib.compareBytes K.data.toList hi.data.toList = b at *
  clear hem
  by_cases ha : 0 ≤ a
  · cases he : (hi.toList == [])
    · have hr : r = decide (b < 0) := by rw [HI.out, he, decide_eq_true ha]; simp
      subst hr
      clear HI
      go_enter Tryd.func39, Tryd.ntmps39
      go_wp2_with fail
      refine (C1.out _).mono ?_
      rintro e w1 ⟨rfl, hb⟩
      have HB := Lib.hid hb; clear hb
      go_wp2_with fail
      refine (C2.out _).mono ?_
      rintro e w2 ⟨rfl, hb⟩
      have HB2 := Lib.hid (HB.out.trans (hb.mono HB.out.size)); clear hb
      go_wp2_with fail
      go_ret
      exact ⟨rfl, HB2.out⟩
    · have hr : r = true := by rw [HI.out, he, decide_eq_true ha]; simp
      subst hr
      clear HI
      go_enter Tryd.func39, Tryd.ntmps39
      go_wp2_with fail
      refine (C1.out _).mono ?_
      rintro e w1 ⟨rfl, hb⟩
      have HB := Lib.hid hb; clear hb
      go_wp2_with fail
      go_ret
      exact ⟨rfl, HB.out⟩
  · have hr : r = false := by rw [HI.out, decide_eq_false ha]; simp
    subst hr
    clear HI
    go_enter Tryd.func39, Tryd.ntmps39
    go_wp2_with fail
    refine (C1.out _).mono ?_
    rintro e w1 ⟨rfl, hb⟩
    have HB := Lib.hid hb; clear hb
    go_wp2_with fail
    go_ret
    exact ⟨rfl, HB.out⟩
end Go.Proofs.YtiddnacmopfamaaDoor
