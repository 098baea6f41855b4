/- The walk of ValSwaps. -/
import Derived.Test.YtfgadkknfehkcaaDoorSwap
namespace Go.Proofs.YtfgadkknfehkcaaDoor
open Go.RowKit
set_option linter.unusedVariables false

theorem swap_any (s a b : ByteArray) (hs : s.size ≤ maxLen) (ha : a.size ≤ maxLen) (hb : b.size ≤ maxLen) : ∃ t x, SwIs s a b t x := by
  by_cases h : 2048 < s.size ∨ 2048 < a.size ∨ 2048 < b.size
  · exact ⟨nos, 3, swap_large s a b hs ha hb h⟩
  · exact swap_small s a b (by omega) (by omega) (by omega)

set_option maxHeartbeats 2000000 in
theorem swaps_any (s a b : ByteArray) (w : World) (ht : Tab w) (hm : MaxL w) (hs : s.size ≤ 140737488355328) (ha : a.size ≤ 140737488355328) (hb : b.size ≤ 140737488355328) :
    Calls Tryd.prog 15 #[.string s, .string a, .string b] w fun e w' => e = .returned (.bool true) ∧ Below w.heap.size w w' := by
  have hp := ht.pos
  have HT := Lib.hid ht; clear ht
  have HM := Lib.hid hm; clear hm
  obtain ⟨t, x, c1, c2⟩ := swap_any s a b (by unfold maxLen; omega) (by unfold maxLen; omega) (by unfold maxLen; omega)
  have C1 := Lib.hid c1; clear c1
  have C2 := Lib.hid c2; clear c2
  have q1 : (t.toList == t.toList) = true := by simp
  have q2 : (x == x) = true := by simp
  by_cases hl : 20000 < s.size + a.size + b.size
  · have i1 : 20000 < (s.size : Int) + a.size + b.size := by omega
    go_enter Tryd.func15, Tryd.ntmps15
    go_wp2_with fail
    refine (known_any _ HT.out).mono ?_
    rintro e w1 ⟨rfl, hb1⟩
    go_wp2_with fail
    go_ret
    exact ⟨rfl, hb1⟩
  · have i1 : ¬ 20000 < (s.size : Int) + a.size + b.size := by omega
    go_enter Tryd.func15, Tryd.ntmps15
    go_wp2_with fail
    refine (C1.out _ HM.out).mono ?_
    rintro e w1 ⟨rfl, hb1⟩
    have z1 := hb1.size
    have HT1 := Lib.hid (HT.out.below hb1 hp)
    go_wp2_with fail
    refine (C2.out _).mono ?_
    rintro e w' ⟨rfl, rfl⟩
    go_wp2_with fail
    refine (known_any _ HT1.out).mono ?_
    rintro e w2 ⟨rfl, hb2⟩
    go_wp2_with fail
    go_ret
    exact ⟨rfl, hb1.trans (hb2.mono (by omega))⟩
end Go.Proofs.YtfgadkknfehkcaaDoor
