/- The walk of ValParts. -/
import Derived.Test.YtfgadkknfehkcaaDoorAt
namespace Go.Proofs.YtfgadkknfehkcaaDoor
open Go.RowKit
set_option linter.unusedVariables false

set_option maxHeartbeats 2000000 in
theorem parts_any (s t : ByteArray) (a n : Int) (w : World) (ht : Tab w) (hm : MaxL w) (hs : s.size ≤ 140737488355328) (hu : t.size ≤ 140737488355328) (ha : I64 a) (hn : I64 n) :
    Calls Tryd.prog 14 #[.agg #[.string s, .string t], .int .i64 a, .int .i64 n] w fun e w' => e = .returned (.bool true) ∧ Below w.heap.size w w' := by
  have hp := ht.pos
  have HT := Lib.hid ht; clear ht
  have HM := Lib.hid hm; clear hm
  obtain ⟨p, x, c1, c2⟩ := part_any s a n (by unfold maxLen; omega) ha hn
  obtain ⟨q, y, c3, c4⟩ := stuff_any s a n t (by unfold maxLen; omega) (by unfold maxLen; omega) ha hn
  have C1 := Lib.hid c1; clear c1
  have C2 := Lib.hid c2; clear c2
  have C3 := Lib.hid c3; clear c3
  have C4 := Lib.hid c4; clear c4
  have q1 : (p.toList == p.toList) = true := by simp
  have q2 : (x == x) = true := by simp
  have q3 : (q.toList == q.toList) = true := by simp
  have q4 : (y == y) = true := by simp
  have hba : Below w.heap.size w ((w.alloc (.cells #[.string s, .string t] 57)).drew) := ((Below.refl _ _).alloc (Nat.le_refl _) _).drew
  have HTa := Lib.hid (HT.out.below hba hp)
  by_cases hl : 20000 < s.size + t.size
  · have i1 : 20000 < (s.size : Int) + t.size := by omega
    go_enter Tryd.func14, Tryd.ntmps14
    go_wp2_with fail
    go_region
    all_goals go_wp2_with fail
    all_goals refine (known_any _ HTa.out).mono ?_
    all_goals rintro e w1 ⟨rfl, hb1⟩
    all_goals go_wp2_with fail
    all_goals go_ret
    all_goals exact ⟨rfl, hba.trans (hb1.mono (by simp))⟩
  · have i1 : ¬ 20000 < (s.size : Int) + t.size := by omega
    have C5 := Lib.hid (fun w hm => At_any t s (by omega) w hm)
    have C6 := Lib.hid (refAt_any t s (by omega) (by omega))
    generalize atV t s = v at *
    have q5 : (v == v) = true := by simp
    go_enter Tryd.func14, Tryd.ntmps14
    go_wp2_with fail
    go_region
    all_goals go_wp2_with fail
    all_goals refine (C1.out _).mono ?_
    all_goals rintro e w1 ⟨rfl, hb1⟩
    all_goals have hB1 : Below w.heap.size w w1 := hba.trans (hb1.mono (by simp))
    all_goals have z1 : w.heap.size ≤ w1.heap.size := hB1.size
    all_goals go_wp2_with fail
    all_goals refine (C2.out _).mono ?_
    all_goals rintro e w' ⟨rfl, rfl⟩
    all_goals go_wp2_with fail
    all_goals refine (C3.out _).mono ?_
    all_goals rintro e w2 ⟨rfl, hb2⟩
    all_goals have hB2 : Below w.heap.size w w2 := hB1.trans (hb2.mono z1)
    all_goals have z2 : w.heap.size ≤ w2.heap.size := hB2.size
    all_goals go_wp2_with fail
    all_goals refine (C4.out _).mono ?_
    all_goals rintro e w3 ⟨rfl, hb3⟩
    all_goals have hB3 : Below w.heap.size w w3 := hB2.trans (hb3.mono z2)
    all_goals have HT3 := Lib.hid (HT.out.below hB3 hp)
    all_goals have HM3 := Lib.hid (HM.out.below hB3)
    all_goals have z3 : w.heap.size ≤ w3.heap.size := hB3.size
    all_goals go_wp2_with fail
    all_goals refine (C5.out _ HM3.out).mono ?_
    all_goals rintro e w' ⟨rfl, rfl⟩
    all_goals go_wp2_with fail
    all_goals refine (C6.out _).mono ?_
    all_goals rintro e w' ⟨rfl, rfl⟩
    all_goals go_wp2_with fail
    all_goals refine (known_any _ HT3.out).mono ?_
    all_goals rintro e w4 ⟨rfl, hb4⟩
    all_goals go_wp2_with fail
    all_goals go_ret
    all_goals exact ⟨rfl, hB3.trans (hb4.mono z3)⟩
end Go.Proofs.YtfgadkknfehkcaaDoor
