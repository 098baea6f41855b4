/- The walk of SameValue of the reference, for a value and itself. -/
import Derived.Test.YtiddnacmopfamaaDoorKvA
namespace Go.Proofs.YtiddnacmopfamaaDoor
open Go.RowKit
set_option linter.unusedVariables false
set_option linter.unusedSimpArgs false

set_option maxHeartbeats 1000000 in
theorem Same_self (k n : Int) (s : ByteArray) (w : World) :
    Calls Tryd.prog 20 #[vv k n s, vv k n s] w fun e w' => e = .returned (.bool true) ∧ Below w.heap.size w w' := by
  have q1 : (k == k) = true := by simp
  have q2 : (n == n) = true := by simp
  have q3 : (s.toList == s.toList) = true := by simp
  go_enter Tryd.func20, Tryd.ntmps20
  go_wp2
  go_ret
  exact ⟨rfl, ((Below.refl _ _).alloc (Nat.le_refl _) _).alloc (by simp) _⟩
end Go.Proofs.YtiddnacmopfamaaDoor
