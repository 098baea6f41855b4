/- The law of BtreeNil. -/
import Derived.Test.YtafajhplaldeaaaEvK1
import Derived.Test.YtafajhplaldeaaaRows
import Derived.WalkKit
import Derived.ProofKit
import Derived.Below
import Derived.Lib.Hide
namespace Go.Proofs.Ytafajhplaldeaaa
open Go.RowKit
set_option linter.unusedVariables false
set_option maxRecDepth 40000
set_option maxHeartbeats 2000000 in
theorem btreeNil_law (s : ByteArray) (n : Int) (w : World) (hz : s.size ≤ maxLen) :
    Calls Try.prog 3 #[.string s, .int .i64 n] w fun e w' => e = .returned (.bool true) ∧ Below w.heap.size w w' := by
  by_cases h : s.size ≤ 1048576
  · exact Ev.nil_any s n w h
  · have HK := Lib.hid (fun W => Ev.known_any W)
    unfold maxLen at hz
    have d1 : decide (1048576 < (s.size : Int)) = true := by simp; omega
    go_enter Try.func3, Try.ntmps3
    go_wp2_with fail
    refine (HK.out _).mono ?_
    rintro e w1 ⟨rfl, hb⟩
    have HB := Lib.hid hb; clear hb
    go_wp2_with fail
    (try rw [Exit.noGoto_ret])
    go_ret
    exact ⟨rfl, HB.out⟩
end Go.Proofs.Ytafajhplaldeaaa
