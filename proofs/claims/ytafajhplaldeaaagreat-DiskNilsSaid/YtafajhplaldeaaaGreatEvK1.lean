/- A law of nothing at all is evaluated whole: DiskNils. -/
import Derived.Test.YtafajhplaldeaaaGreatEvW1
namespace Go.Ev
open Go Go.RowKit
theorem law_run : out (run 1000000 (.call 3 [.ext 0, .ext 1] ⟨.e, NG, .on NG 0 0⟩)) = some (.bool true) := by kernel_rfl
def two (a b : Value) : Nat → Value
  | 0 => a
  | _ => b
theorem law_any (u : Int) (s : ByteArray) (w : World) : Calls Go.Proofs.Tryz.prog 3 #[.int .i64 u, .string s] w fun e w' => e = .returned (.bool true) ∧ Below w.heap.size w w' :=
  start_yes (E := mkE (fun _ => ⟨#[]⟩) (two (.int .i64 u) (.string s)) 0 (-1)) (seat _ (mkE_plain (fun _ => Nat.zero_le _) (fun k => match k with | 0 => rfl | _ + 1 => rfl) (by decide))) mixed law_run none_dom (Nat.zero_le _) none_laid rfl
end Go.Ev
