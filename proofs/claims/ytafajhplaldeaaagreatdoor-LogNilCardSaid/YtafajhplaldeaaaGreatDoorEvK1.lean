/- LogNil and BufNils: the laws are evaluated whole. -/
import Derived.Test.YtafajhplaldeaaaGreatDoorEvW1
namespace Go.Ev
open Go Go.RowKit
theorem law_run : out (run 1000000 (.call 4 [.ext 0] ⟨.e, NG, .on NG 0 0⟩)) = some (.bool true) := by kernel_rfl
theorem law_any (n : Int) (w : World) (h : NG ≤ w.heap.size) : Calls Go.Proofs.Tryz.prog 4 #[.int .i64 n] w fun e w' => e = .returned (.bool true) ∧ Below w.heap.size w w' :=
  start_yes (E := mkE (fun _ => ⟨#[]⟩) (fun _ => .int .i64 n) 0 (-1)) (seat _ (mkE_plain (fun _ => Nat.zero_le _) (fun _ => rfl) (by decide))) mixed law_run none_dom h none_laid rfl
end Go.Ev
