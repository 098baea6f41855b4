/- The law's 'known' returns true: by the evaluator. -/
import Derived.Test.YthagfammfejenaaDoorEvW1
namespace Go.Ev
open Go Go.RowKit
theorem known_run : out (run 1000000 (.call 11 [] ⟨.e, NG, .on NG 0 0⟩)) = some (.bool true) := by kernel_rfl
theorem known_any (w : World) (h : NG ≤ w.heap.size) : Calls Go.Proofs.Tryd.prog 11 #[] w fun e w' => e = .returned (.bool true) ∧ Below w.heap.size w w' :=
  start_yes (E := fun _ => .bool false) (seat _ (fun _ => rfl)) mixed known_run none_dom h none_laid rfl
end Go.Ev
